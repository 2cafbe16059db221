/- StackPlays. -/
import Derived.Test.YtmheggedlepdlaaStaX
import Derived.Test.YtmheggedlepdlaaStaR
namespace Go.Proofs.Ytmheggedlepdlaa
open Go.RowKit Lv Sk Go.Sort
set_option linter.unusedVariables false

theorem grown_trans {a b c : World} {row : Option Nat} (h : a.grownBy b row) (k : b.grownBy c row) : a.grownBy c row :=
  ⟨k.os.trans h.os, k.tape.trans h.tape, k.output.trans h.output, Nat.le_trans h.size k.size, fun i hi hne => (k.block i (Nat.lt_of_lt_of_le hi h.size) hne).trans (h.block i hi hne)⟩
theorem grown_set1 (w : World) (b o : Nat) (v : Value) : w.grownBy (w.setCell ⟨b, o, none⟩ v) (some b) :=
  ⟨rfl, rfl, rfl, by simp [World.setCell], fun k hk hne => Below.heap_setCell _ _ _ _ (fun e => hne (by rw [e]))⟩
theorem grown_w8 (w : World) (g p : Nat) (x0 x1 x2 x3 x4 x5 x6 x7 : Int) : w.grownBy (w8 w g p x0 x1 x2 x3 x4 x5 x6 x7) (some g) :=
  grown_trans (grown_trans (grown_trans (grown_trans (grown_trans (grown_trans (grown_trans (grown_set1 _ _ _ _) (grown_set1 _ _ _ _)) (grown_set1 _ _ _ _)) (grown_set1 _ _ _ _)) (grown_set1 _ _ _ _)) (grown_set1 _ _ _ _)) (grown_set1 _ _ _ _)) (grown_set1 _ _ _ _)
/-- a row of tasks, those from j on as they came -/
def IR (w : World) (g n : Nat) (z : Nat → Nat → Int) (j : Nat) : Prop := ∃ c, w.heap[g]? = some (.cells c 32 (0, 0)) ∧ n * 8 ≤ c.size ∧ ∀ i, j ≤ i → i < n → ∀ x, x < 8 → c[i * 8 + x]? = some (.int .i64 (z i x))
theorem IR.set1 {w : World} {g n j p : Nat} {z : Nat → Nat → Int} (h : IR w g n z j) (hp : p < j * 8) (x : Int) : IR (w.setCell ⟨g, p, none⟩ (.int .i64 x)) g n z j := by
  obtain ⟨c, h1, h2, h3⟩ := h
  refine ⟨c.setIfInBounds p (.int .i64 x), by simp [World.setCell, Array.getElem?_modify, h1], by simpa using h2, fun i hi hn y hy => ?_⟩
  rw [Array.getElem?_setIfInBounds_ne (by omega)]
  exact h3 i hi hn y hy
theorem IR.set8 {w : World} {g n j : Nat} {z : Nat → Nat → Int} (h : IR w g n z j) (x0 x1 x2 x3 x4 x5 x6 x7 : Int) : IR (w8 w g (j * 8) x0 x1 x2 x3 x4 x5 x6 x7) g n z (j + 1) := by
  have h' : IR w g n z (j + 1) := by obtain ⟨c, h1, h2, h3⟩ := h; exact ⟨c, h1, h2, fun i hi => h3 i (by omega)⟩
  exact (((((((h'.set1 (by omega) _).set1 (by omega) _).set1 (by omega) _).set1 (by omega) _).set1 (by omega) _).set1 (by omega) _).set1 (by omega) _).set1 (by omega) _
theorem IR.at {w : World} {g n j : Nat} {z : Nat → Nat → Int} (h : IR w g n z j) (hj : j < n) {x : Nat} (hx : x < 8) : w.cell? ⟨g, j * 8 + x, none⟩ = some (.int .i64 (z j x)) ∧ w.frozen? ⟨g, j * 8 + x, none⟩ = false := by
  obtain ⟨c, h1, h2, h3⟩ := h
  exact ⟨(cell_of_row _ _ _ _ _ _ h1).trans (h3 j (Nat.le_refl _) hj x hx), frozen_of_row _ _ _ _ _ h1⟩
theorem IR.keep {w w' : World} {g n j : Nat} {z : Nat → Nat → Int} (h : IR w g n z j) (q : w'.heap[g]? = w.heap[g]?) : IR w' g n z j := by obtain ⟨c, h1, h2⟩ := h; exact ⟨c, q.trans h1, h2⟩
/-- of a row of the call's own; nothing of none -/
def IV (w : World) (B G : Nat) (a : Option Addr) (n : Nat) (z : Nat → Nat → Int) (j : Nat) : Prop := 0 < n → ∃ g, a = some ⟨g, 0, none⟩ ∧ B ≤ g ∧ g < G ∧ IR w g n z j
theorem NT.iv {w : World} {B : Nat} {a : Option Addr} {n cap : Nat} {z : Nat → Nat → Int} (h : NT w B (.slice a n cap) n z) : IV w B w.heap.size a n z 0 := by
  intro hn
  have hl := tcl_len z n
  rcases h.2 with ⟨_, h0⟩ | ⟨g, cap', cur, e, hb, hh, hnc, hcm, hcs, htk⟩
  · omega
  · injection e with e1 _ _
    refine ⟨g, e1, hb, lt_of_block hh, cur, hh, by rw [hcs]; omega, fun i _ hi x hx => ?_⟩
    have q := tcl_at z n i x hi hx
    rw [← htk, List.getElem?_take] at q
    split at q
    · simpa using q
    · cases q
theorem IV.below {w w' : World} {B G : Nat} {a : Option Addr} {n j : Nat} {z : Nat → Nat → Int} (h : IV w B G a n z j) (q : Below G w w') : IV w' B G a n z j := by
  intro hn
  obtain ⟨g, e, h1, h2, h3⟩ := h hn
  exact ⟨g, e, h1, h2, h3.keep (q.block g h2)⟩
theorem TX.other {B : Nat} {W w w' : World} {sb mb n : Nat} {z : Nat → Nat → Int} {l m : List En} {tv lv tv' lv' : Value} {g : Nat} (h : TX B W w sb mb n z l m tv lv tv' lv') (hg : w.grownBy w' (some g)) (h0 : B ≤ g) (h1 : g ≠ sb) (h2 : g ≠ mb)
    (h3 : lv.ownBlock ≠ some g) (h4 : tv.ownBlock ≠ some g) (h5 : lv'.ownBlock ≠ some g) (h6 : tv'.ownBlock ≠ some g) : TX B W w' sb mb n z l m tv lv tv' lv' := by
  obtain ⟨b0, b1, b2⟩ := h.bsz
  have on : Only (fun k => k = g) w w' := ⟨hg.os, hg.tape, hg.output, hg.size, fun k hk hne => hg.block k hk (fun e => by injection e with e; exact hne e)⟩
  refine ⟨h.so.only on (fun e => h1 e.symm) (fun j hj e => h3 (e ▸ hj)) (fun j hj e => h4 (e ▸ hj)), h.ro.only on (fun e => h2 e.symm) (fun j hj e => h5 (e ▸ hj)) (fun j hj e => h6 (e ▸ hj)), h.hb, h.bel.trans (on.below b0 fun k _ hk => by subst hk; exact h0), h.ap, h.al, h.am, h.okl, h.okm, h.n4⟩
theorem TX.start {W w1 w2 w3 : World} {sb mb n : Nat} {z : Nat → Nat → Int} {tv tv' : Value} (h1 : Below W.heap.size W w1) (so : SO w2 sb n z [] tv (.slice none 0 0)) (b2 : Below w1.heap.size w1 w2) (hsb : w1.heap.size ≤ sb) (ro : RO w3 mb n z [] tv' (.slice none 0 0)) (b3 : Below w2.heap.size w2 w3) (hmb : w2.heap.size ≤ mb) (htv' : ∀ k, tv'.ownBlock = some k → w2.heap.size ≤ k) (hn : n ≤ 4) :
    TX W.heap.size W w3 sb mb n z [] [] tv (.slice none 0 0) tv' (.slice none 0 0) := by
  have s1 := h1.size
  have s2 := b2.size
  have s3 := lt_of_block so.ob
  refine ⟨so.below b3, ro, ⟨by omega, by omega⟩, (h1.trans (b2.mono s1)).trans (b3.mono (by omega)), ⟨by omega, (fun e => by simp [Value.ownBlock] at e), (fun e => by have := (so.tb _ e).2; omega), (fun e => by simp [Value.ownBlock] at e), (fun e => by have := htv' _ e; omega)⟩, (fun k hk => by simp [Value.ownBlock] at hk), (fun k hk => by simp [Value.ownBlock] at hk), ⟨Ok.nil n, H4.nil⟩, ⟨Ok.nil n, H4.nil⟩, hn⟩
set_option maxRecDepth 100000 in
set_option maxHeartbeats 8000000 in
theorem plays_small {w : World} {v u : Value} {m n : Nat} {z d : Nat → Nat → Int} (ht : TK w v m z) (hd : DS w u n d) (h4 : m ≤ 4) : Calls Try.prog 3 #[v, u] w (TrueB w) := by
  obtain ⟨a, cap, rfl, hn1, hn2⟩ := hd.slice
  obtain ⟨va, vcap, rfl, hv1, hv2⟩ := ht.slice
  have hmx : n ≤ 9223372036854775807 := by unfold maxLen at hn2; omega
  have hm0 : (0 : Int) ≤ m := by omega
  have hmcI : (m : Int) ≤ (vcap : Int) := by omega
  have HTt := Lib.hid ht
  have HD := Lib.hid hd
  obtain ⟨v1, w1, hrun, hnt, hb1⟩ := app_tnil HTt.out (by omega) 22
  obtain ⟨ia, ic, rfl⟩ := own_slice hnt
  have HRUN := Lib.hid hrun
  have HNT := Lib.hid hnt
  have HB1 := Lib.hid hb1
  clear ht hd hrun hnt hb1
  go_enter Try.func3, Try.ntmps3
  go_upto_region 3 with (fail)
  go_wp2_with (at_builtin; refine wpList_append_eq rfl _ _ 22 22 rfl _ _ _ _ rfl rfl HRUN.out ?_)
  refine (new_any HNT.out.tk).mono ?_
  intro e w2 hp
  unfold NewP at hp
  rw [if_pos h4] at hp
  obtain ⟨sb, tv, rfl, so, hb2, hsb, htv⟩ := hp
  have HSO := Lib.hid so
  have HB2 := Lib.hid hb2
  have HSB := Lib.hid (And.intro hsb htv)
  clear so hb2 hsb htv
  go_wp2_with fail
  refine (rnew_any (HTt.out.below (HB1.out.trans (HB2.out.mono HB1.out.size)))).mono ?_
  intro e w3 hp
  unfold RewP at hp
  rw [if_pos h4] at hp
  obtain ⟨mb, tv', rfl, ro, hb3, hmb, htv'⟩ := hp
  have HTX := Lib.hid (TX.start HB1.out HSO.out HB2.out HSB.out.1 ro hb3 hmb htv' h4)
  have HIV := Lib.hid ((HNT.out.iv.below HB2.out).below (hb3.mono HB2.out.size))
  have HAP : Hid (w1.heap.size ≤ sb ∧ w1.heap.size ≤ mb ∧ (∀ k, tv.ownBlock = some k → w1.heap.size ≤ k) ∧ (∀ k, tv'.ownBlock = some k → w1.heap.size ≤ k)) :=
    ⟨HSB.out.1, Nat.le_trans HB2.out.size hmb, HSB.out.2, fun k hk => Nat.le_trans HB2.out.size (htv' k hk)⟩
  obtain ⟨G, hG⟩ : ∃ G, w1.heap.size = G := ⟨_, rfl⟩
  rw [hG] at HIV HAP
  clear ro hb3 hmb htv' hG HSO HB2 HSB HNT HRUN
  go_wp2_with fail
  go_loopw [10] (fun i wr => ∃ j : Nat, j ≤ m ∧ i = .int .i64 j ∧ Hid (IV wr w.heap.size G ia m z j) ∧ Hid (TX w.heap.size w wr sb mb m z [] [] tv (.slice none 0 0) tv' (.slice none 0 0))) (fun i _ => m - (intOf i).toNat)
  case atStart => exact ⟨0, Nat.zero_le _, rfl, HIV.out, HTX.out⟩
  case round =>
    clear HIV HTX
    obtain ⟨j, hj, rfl, HIV, HTX⟩ := hrel
    by_cases hjm : j < m
    · obtain ⟨g, rfl, hg1, hg2, hir⟩ := HIV.out (by omega)
      obtain ⟨b, off, rfl, tc⟩ := (HTt.out.below HTX.out.bel).at hjm
      obtain ⟨c0, c1, c2, c3, c4, c5, c6, c7⟩ := tc
      have y0 := (hir.at hjm (x := 0) (by decide)).1
      have y1 := (hir.at hjm (x := 1) (by decide)).1
      have y2 := (hir.at hjm (x := 2) (by decide)).1
      have y3 := (hir.at hjm (x := 3) (by decide)).1
      have y4 := (hir.at hjm (x := 4) (by decide)).1
      have y5 := (hir.at hjm (x := 5) (by decide)).1
      have y6 := (hir.at hjm (x := 6) (by decide)).1
      have y7 := (hir.at hjm (x := 7) (by decide)).1
      have z0 := (hir.at hjm (x := 0) (by decide)).2
      have z1 := (hir.at hjm (x := 1) (by decide)).2
      have z2 := (hir.at hjm (x := 2) (by decide)).2
      have z3 := (hir.at hjm (x := 3) (by decide)).2
      have z4 := (hir.at hjm (x := 4) (by decide)).2
      have z5 := (hir.at hjm (x := 5) (by decide)).2
      have z6 := (hir.at hjm (x := 6) (by decide)).2
      have z7 := (hir.at hjm (x := 7) (by decide)).2
      rw [Nat.add_zero] at y0 z0
      have HN : Hid (∀ W, W.heap = wr.heap → W.os = wr.os → W.tape = wr.tape → W.output = wr.output → IV (w8 W g (j * 8) 0 0 0 0 0 0 0 0) w.heap.size G (some ⟨g, 0, none⟩) m z (j + 1) ∧ TX w.heap.size w (w8 W g (j * 8) 0 0 0 0 0 0 0 0) sb mb m z [] [] tv (.slice none 0 0) tv' (.slice none 0 0)) := fun W q1 q2 q3 q4 => by
        have hbl : Below wr.heap.size wr W := ⟨q2, q3, q4, by rw [q1]; exact Nat.le_refl _, fun k _ => by rw [q1]⟩
        refine ⟨fun _ => ⟨g, rfl, hg1, hg2, (hir.keep (by rw [q1])).set8 _ _ _ _ _ _ _ _⟩, (HTX.out.below hbl).other (grown_w8 _ _ _ _ _ _ _ _ _ _ _) hg1 ?_ ?_ (by simp [Value.ownBlock]) (fun e => ?_) (by simp [Value.ownBlock]) (fun e => ?_)⟩
        · have := HAP.out.1; omega
        · have := HAP.out.2.1; omega
        · have := HAP.out.2.2.1 g e; omega
        · have := HAP.out.2.2.2 g e; omega
      have hj0 : (0 : Int) ≤ j := by omega
      have hjI : (j : Int) < (m : Int) := by omega
      clear hir HIV HTX
      generalize z j 0 = x0 at *
      generalize z j 1 = x1 at *
      generalize z j 2 = x2 at *
      generalize z j 3 = x3 at *
      generalize z j 4 = x4 at *
      generalize z j 5 = x5 at *
      generalize z j 6 = x6 at *
      generalize z j 7 = x7 at *
      go_wp2_with fail
      go_quiet (fail)
      rename_i nq _
      have HN2 := Lib.hid (HN.out (wr.drewN nq) rfl rfl rfl rfl)
      have y0 : (wr.drewN nq).cell? ⟨g, j * 8, none⟩ = some (.int .i64 x0) := y0
      have y1 : (wr.drewN nq).cell? ⟨g, j * 8 + 1, none⟩ = some (.int .i64 x1) := y1
      have y2 : (wr.drewN nq).cell? ⟨g, j * 8 + 2, none⟩ = some (.int .i64 x2) := y2
      have y3 : (wr.drewN nq).cell? ⟨g, j * 8 + 3, none⟩ = some (.int .i64 x3) := y3
      have y4 : (wr.drewN nq).cell? ⟨g, j * 8 + 4, none⟩ = some (.int .i64 x4) := y4
      have y5 : (wr.drewN nq).cell? ⟨g, j * 8 + 5, none⟩ = some (.int .i64 x5) := y5
      have y6 : (wr.drewN nq).cell? ⟨g, j * 8 + 6, none⟩ = some (.int .i64 x6) := y6
      have y7 : (wr.drewN nq).cell? ⟨g, j * 8 + 7, none⟩ = some (.int .i64 x7) := y7
      have z0 : (wr.drewN nq).frozen? ⟨g, j * 8, none⟩ = false := z0
      have z1 : (wr.drewN nq).frozen? ⟨g, j * 8 + 1, none⟩ = false := z1
      have z2 : (wr.drewN nq).frozen? ⟨g, j * 8 + 2, none⟩ = false := z2
      have z3 : (wr.drewN nq).frozen? ⟨g, j * 8 + 3, none⟩ = false := z3
      have z4 : (wr.drewN nq).frozen? ⟨g, j * 8 + 4, none⟩ = false := z4
      have z5 : (wr.drewN nq).frozen? ⟨g, j * 8 + 5, none⟩ = false := z5
      have z6 : (wr.drewN nq).frozen? ⟨g, j * 8 + 6, none⟩ = false := z6
      have z7 : (wr.drewN nq).frozen? ⟨g, j * 8 + 7, none⟩ = false := z7
      clear HN c0 c1 c2 c3 c4 c5 c6 c7
      generalize wr.drewN nq = wy at *
      go_wp2_with fail
      go_roundw
      case rel => exact ⟨j + 1, by omega, by go_num, HN2.out.1, HN2.out.2⟩
      case measure => simp [intOf]; omega
    · obtain rfl : j = m := by omega
      have HTW : Hid (TW w.heap.size w wr sb mb j z [] []) := ⟨_, _, _, _, HTX.out⟩
      clear HTX HIV
      go_wp2_with fail
      go_loopw [11] (fun i wi => ∃ (k : Nat) (l : List En), k ≤ n ∧ i = .int .i64 k ∧ Hid (TW w.heap.size w wi sb mb j z l l)) (fun i _ => n - (intOf i).toNat)
      case atStart => exact ⟨0, [], Nat.zero_le _, rfl, HTW.out⟩
      case round =>
        clear HTW
        obtain ⟨k, l, hk, rfl, HTW⟩ := hrel
        by_cases hkn : k < n
        · by_cases hk100 : k < 100
          · obtain ⟨b, off, rfl, d0, d1, d2⟩ := (HD.out.below HTW.out.bel).at hkn
            have hk1 : decide ((k : Int) < 100) = true := by simp; omega
            have hkI : (k : Int) < (n : Int) := by omega
            have hk0 : (0 : Int) ≤ k := by omega
            generalize d k 0 = x0 at *
            generalize d k 1 = x1 at *
            generalize d k 2 = x2 at *
            have HST := Lib.hid (step_any HTW.out x0 x1 x2)
            clear HTW
            go_wp2_with fail
            refine HST.out.mono ?_
            rintro e w4 ⟨l2, rfl, htw⟩
            have HTW := Lib.hid htw
            clear htw HST d0 d1 d2
            go_wp2_with fail
            refine (same_any HTW.out).mono ?_
            rintro e w5 ⟨rfl, hb5⟩
            have HT5 := Lib.hid (HTW.out.below hb5)
            clear hb5 HTW
            go_wp2_with fail
            go_roundw
            case rel => exact ⟨k + 1, l2, by omega, by go_num, HT5.out⟩
            case measure => simp [intOf]; omega
          · have hk1 : decide ((k : Int) < 100) = false := by simp; omega
            have hkI : (k : Int) < (n : Int) := by omega
            go_wp2_with fail
            refine (works_any _).mono ?_
            rintro e w5 ⟨rfl, hb5⟩
            have HB5 := Lib.hid (HTW.out.bel.trans (hb5.mono HTW.out.bel.size))
            clear hb5
            go_wp2_with fail
            go_ret
            exact ⟨rfl, HB5.out⟩
        · obtain rfl : k = n := by omega
          go_wp2_with fail
          refine (works_any _).mono ?_
          rintro e w5 ⟨rfl, hb5⟩
          have HB5 := Lib.hid (HTW.out.bel.trans (hb5.mono HTW.out.bel.size))
          clear hb5
          go_wp2_with fail
          go_ret
          exact ⟨rfl, HB5.out⟩
end Go.Proofs.Ytmheggedlepdlaa
