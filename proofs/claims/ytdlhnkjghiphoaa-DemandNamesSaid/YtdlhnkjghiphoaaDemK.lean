/- DemandOf and DemandUse. -/
import Derived.Test.YtdlhnkjghiphoaaDemJ
namespace Go.Proofs.Ytdlhnkjghiphoaa
open Go.RowKit Tk De
set_option linter.unusedVariables false

theorem IS.row {w : World} {a : Option Addr} {n cap : Nat} {xs : List Int} (h : IS w (.slice a n cap) xs) : Row w a xs := by
  obtain ⟨a', cap', e, h1, h2, h3, h4⟩ := h
  obtain ⟨rfl, rfl, rfl⟩ : a = a' ∧ n = xs.length ∧ cap = cap' := by simpa using e
  by_cases h0 : 0 < xs.length
  · obtain ⟨b, off, rfl, hc⟩ := h4 h0
    exact Or.inr ⟨b, off, rfl, hc⟩
  · exact Or.inl (List.eq_nil_of_length_eq_zero (by omega))
theorem is_of_own {n : Nat} {zs : List Int} {w' : World} {base : Nat} {v : Value} (hn : n = zs.length) (h : w'.ownsRow base 3 1 v n (zs.map (Value.int .i64))) : IS w' v zs := by
  have hc := h
  subst hn
  rcases h.2 with ⟨rfl, h0⟩ | ⟨g, cap, cur, rfl, hg, hh, hnc, hcm, _⟩
  · obtain rfl : zs = [] := List.eq_nil_of_length_eq_zero h0
    exact IS.nil _
  · refine ⟨some ⟨g, 0, none⟩, cap, rfl, hnc, hcm, (fun h => by cases h), fun _ => ⟨g, 0, rfl, fun i hi => ?_⟩⟩
    have := hc.cells (g := g) rfl i (.int .i64 (zs.getD i 0)) (by simp [List.getElem?_eq_getElem hi, List.getD])
    rw [Addr.add_lit] at this; exact this
set_option maxHeartbeats 400000 in
theorem copy_is {w : World} {v : Value} {zs : List Int} (h : IS w v zs) (hl : zs.length * 8 ≤ 140737488351232) : Calls Try.prog 8 #[v] w (fun e w' => ∃ r, e = .returned r ∧ IS w' r zs ∧ Below w.heap.size w w') := by
  obtain ⟨i0, hi, hz0, hz1, hz2⟩ := info_parts infoIn
  obtain ⟨a, cap, rfl, hn1, hn2⟩ := h.slice
  rcases a with _ | ad
  · obtain ⟨rfl, rfl⟩ : zs = [] ∧ cap = 0 := by
      obtain ⟨a', cap', e, h1, h2, h3, h4⟩ := h
      injection e with e1 e2 e3
      have hc0 := h3 e1.symm
      exact ⟨List.eq_nil_of_length_eq_zero (by omega), by omega⟩
    clear h hn1 hn2 hl
    have h0 := World.ownsRow_nil w w.heap.size 3 1
    go_enter Try.func8, Try.ntmps8
    go_wp2_with fail
    go_ret
    exact ⟨_, rfl, IS.nil _, Below.refl _ _⟩
  · have h0 := World.ownsRow_nil w w.heap.size 3 1
    have hc : ∀ (j : Nat) (u : Value), (zs.map (Value.int .i64))[j]? = some u → w.cell? (ad.add j) = some u := by
      intro j u hj
      have hjl : j < zs.length := by
        have := (List.getElem?_eq_some_iff.1 hj).1
        simpa using this
      obtain ⟨b, off, e, hcell⟩ := h.at hjl
      injection e with e
      subst e
      rw [Addr.add_lit, hcell]
      rw [List.getElem?_map, List.getElem?_eq_getElem hjl] at hj
      simpa [List.getD, List.getElem?_eq_getElem hjl] using hj
    obtain ⟨n, hn⟩ : ∃ n, n = zs.length := ⟨_, rfl⟩
    rw [← hn] at hn1 hl ⊢
    have HN := Lib.hid hn; clear hn
    have HC := Lib.hid hc; clear hc h
    go_enter Try.func8, Try.ntmps8
    go_wp2_with (at_builtin; refine wpList_append_own _ rfl _ _ 23 rfl w.heap.size 3 i0 (.int .i64 0) 1 8 Try.underlying23 hi hz0 hz1 hz2 rfl (by decide) (.slice none 0 0) 0 [] rfl h0 ad n cap (zs.map (Value.int .i64)) rfl ?c0 ?c1 ?c2 ?c3 ?c4 ?c5 ?_)
    case c0 => simp [HN.out]
    case c1 => exact HC.out
    case c2 => intro u hu; obtain ⟨z, _, rfl⟩ := List.mem_map.1 hu; rfl
    case c3 => unfold maxLen; omega
    case c4 => omega
    case c5 => exact Nat.le_refl _
    intro v' w1 hown hgrow _
    have hown' : w1.ownsRow w.heap.size 3 1 v' n (zs.map (Value.int .i64)) := by simpa using hown
    have HR := Lib.hid (is_of_own HN.out hown')
    have HB := Lib.hid ((Below.refl w.heap.size w).grown hgrow (Nat.le_refl _) (fun k hk => by simp [Value.ownBlock] at hk))
    clear hown hgrow h0 hown'
    obtain ⟨a1, c1, rfl, _, _⟩ := HR.out.slice
    go_wp2_with fail
    go_ret
    exact ⟨_, rfl, HR.out, HB.out⟩
set_option maxHeartbeats 1000000 in
theorem of_law {w : World} {v u : Value} {n : Nat} {z : Nat → Nat → Int} {xs : List Int} (h : TK w v n z) (hx : IS w u xs) (hl : xs.length * 8 ≤ 140737488351232) (t : Int) :
    Calls Try.prog 3 #[v, u, .int .i64 t] w (TrueB w) := by
  have HC := Lib.hid (copy_is hx hl)
  obtain ⟨a, cap, rfl, hn1, hn2⟩ := h.slice
  obtain ⟨b, cap2, rfl, hm1, hm2⟩ := hx.slice
  have HT := Lib.hid h; have HX := Lib.hid hx
  have hlen : xs.length ≤ 9223372036854775807 := by omega
  clear h hx hl
  obtain ⟨m, hm⟩ : ∃ m, m = xs.length := ⟨_, rfl⟩
  have HM := Lib.hid hm
  rw [← hm] at HC HX hm1 hlen ⊢
  clear hm
  go_enter Try.func3, Try.ntmps3
  go_wp2_with fail
  refine HC.out.mono ?_
  rintro e w1 ⟨r, rfl, hr, hb⟩
  have HT1 := Lib.hid (HT.out.below hb); have HX1 := Lib.hid (HX.out.below hb); have HR1 := Lib.hid hr; have HB1 := Lib.hid hb
  obtain ⟨a1, c1, rfl, hc1, hc2⟩ := hr.slice
  have hro := HR1.out.row
  rw [← HM.out] at HR1 hc1 ⊢
  have HRo := Lib.hid hro
  clear hb hr HC HT HX hro
  go_wp2_with fail
  refine (of_any HT1.out HR1.out t).mono ?_
  rintro e w2 ⟨rfl, hb⟩
  have HT2 := Lib.hid (HT1.out.below hb); have HX2 := Lib.hid (HX1.out.below hb); have HR2 := Lib.hid (HR1.out.below hb); have HB2 := Lib.hid (chn HB1.out hb)
  clear hb HT1 HX1 HR1 HB1 HRo
  go_wp2_with fail
  refine (rof_any HT2.out HX2.out t).mono ?_
  rintro e w3 ⟨rfl, hb⟩
  have HT3 := Lib.hid (HT2.out.below hb); have HX3 := Lib.hid (HX2.out.below hb); have HR3 := Lib.hid (HR2.out.below hb); have HB3 := Lib.hid (chn HB2.out hb)
  clear hb HT2 HX2 HR2 HB2
  generalize (ofR n z xs t).1 = r1
  generalize (ofR n z xs t).2 = r2
  go_wp2_with fail
  refine (check_any HT3.out HR3.out).mono ?_
  rintro e w4 ⟨rfl, hb⟩
  have HT4 := Lib.hid (HT3.out.below hb); have HX4 := Lib.hid (HX3.out.below hb); have HR4 := Lib.hid (HR3.out.below hb); have HB4 := Lib.hid (chn HB3.out hb)
  clear hb HT3 HX3 HR3 HB3
  go_wp2_with fail
  refine (rcheck_any HT4.out HX4.out).mono ?_
  rintro e w5 ⟨rfl, hb⟩
  have HX5 := Lib.hid (HX4.out.below hb); have HR5 := Lib.hid (HR4.out.below hb); have HB5 := Lib.hid (chn HB4.out hb)
  clear hb HT4 HX4 HR4 HB4
  generalize chkE n z xs = r3
  go_wp2_with fail
  refine (eq_any _ _ _ _ m xs _ HM.out hlen HR5.out.row HX5.out.row).mono ?_
  rintro e w6 ⟨rfl, hb⟩
  have HB6 := Lib.hid (chn HB5.out hb)
  clear hb HX5 HR5 HB5
  go_wp2_with fail
  refine (works_any _).mono ?_
  rintro e w7 ⟨rfl, hb⟩
  have HB7 := Lib.hid (chn HB6.out hb)
  clear hb HB6
  go_wp2_with fail
  go_ret
  exact ⟨rfl, HB7.out⟩
set_option maxHeartbeats 1000000 in
theorem use_law {w : World} {v u : Value} {n : Nat} {z : Nat → Nat → Int} {xs : List Int} (h : TK w v n z) (hx : IS w u xs) (t : Int) :
    Calls Try.prog 4 #[v, u, .int .i64 t] w (TrueB w) := by
  have HT := Lib.hid h; have HX := Lib.hid hx
  clear h hx
  go_enter Try.func4, Try.ntmps4
  go_wp2_with fail
  refine (hyper_any HT.out t).mono ?_
  rintro e w1 ⟨rfl, hb⟩
  have HT1 := Lib.hid (HT.out.below hb); have HX1 := Lib.hid (HX.out.below hb); have HB1 := Lib.hid hb
  clear hb HT HX
  go_wp2_with fail
  refine (rhyper_any HT1.out t).mono ?_
  rintro e w2 ⟨rfl, hb⟩
  have HT2 := Lib.hid (HT1.out.below hb); have HX2 := Lib.hid (HX1.out.below hb); have HB2 := Lib.hid (chn HB1.out hb)
  clear hb HT1 HX1 HB1
  generalize (hyR n z t).1 = r1
  generalize (hyR n z t).2 = r2
  go_wp2_with fail
  refine (use_any HT2.out HX2.out t).mono ?_
  rintro e w3 ⟨rfl, hb⟩
  have HT3 := Lib.hid (HT2.out.below hb); have HX3 := Lib.hid (HX2.out.below hb); have HB3 := Lib.hid (chn HB2.out hb)
  clear hb HT2 HX2 HB2
  go_wp2_with fail
  refine (ruse_any HT3.out HX3.out t).mono ?_
  rintro e w4 ⟨rfl, hb⟩
  have HT4 := Lib.hid (HT3.out.below hb); have HX4 := Lib.hid (HX3.out.below hb); have HB4 := Lib.hid (chn HB3.out hb)
  clear hb HT3 HX3 HB3
  generalize (useR n z xs t).1 = r3
  generalize (useR n z xs t).2 = r4
  go_wp2_with fail
  refine (use_any HT4.out HX4.out r1).mono ?_
  rintro e w5 ⟨rfl, hb⟩
  have HT5 := Lib.hid (HT4.out.below hb); have HX5 := Lib.hid (HX4.out.below hb); have HB5 := Lib.hid (chn HB4.out hb)
  clear hb HT4 HX4 HB4
  go_wp2_with fail
  refine (ruse_any HT5.out HX5.out r1).mono ?_
  rintro e w6 ⟨rfl, hb⟩
  have HB6 := Lib.hid (chn HB5.out hb)
  clear hb HT5 HX5 HB5
  generalize (useR n z xs r1).1 = r5
  generalize (useR n z xs r1).2 = r6
  go_wp2_with fail
  refine (works_any _).mono ?_
  rintro e w7 ⟨rfl, hb⟩
  have HB7 := Lib.hid (chn HB6.out hb)
  clear hb HB6
  go_wp2_with fail
  go_ret
  exact ⟨rfl, HB7.out⟩
end Go.Proofs.Ytdlhnkjghiphoaa
