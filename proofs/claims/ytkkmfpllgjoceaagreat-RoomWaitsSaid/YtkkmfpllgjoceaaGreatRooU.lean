/- A step of a play: the walk. -/
import Derived.Test.YtkkmfpllgjoceaaGreatRooT
import Derived.Test.YtkkmfpllgjoceaaGreatZb
import Derived.Deep.RegionHeld3
import Derived.Deep.CutRange
namespace Go.Proofs.YtkkmfpllgjoceaaGreat.Ro
open Go.RowKit Go.Sort Ac Jo
set_option linter.unusedVariables false
set_option maxRecDepth 100000

section
variable {X : Nat → Option Obj} {Q : Rprg} {B : Nat} {W w w' : World} {pb rb : Nat} {tv ov : Value} {s s' : Rm} {now : Int} {O : List Int}
theorem PL.tick (h : PL X Q B W w pb rb tv ov s now O) (now' : Int) : PL X Q B W (w.setCell ⟨pb, 2, none⟩ (.int .i64 now')) pb rb tv ov s now' O := by
  have hob := heap_setCell_same w pb 2 _ _ (.int .i64 now') h.ob
  have hn : ∀ k, k ≠ pb → (w.setCell ⟨pb, 2, none⟩ (.int .i64 now')).heap[k]? = w.heap[k]? := fun k hk => Below.heap_setCell _ _ _ _ hk
  refine ⟨hob, row_keep h.tk (fun k hk => hn k (h.d2 k hk)), row_keep h.od (fun k hk => hn k (h.d1 k hk)), ?_, h.d1, h.d2, h.d3, h.pbB, fun k o hk => (hn k (h.x1 k (by rw [hk]; rfl)).2.1).trans (h.xk k o hk), h.x1⟩
  refine (h.rm.less (F' := PF X pb tv ov) (fun k hk => hk)).far (Only.set w 2 _ (Or.inl rfl)) ?_
  rintro k (rfl | hk | hk | hk)
  · exact h.pbB
  · exact (own_ge h.tk k hk).1
  · exact (own_ge h.od k hk).1
  · exact (h.x1 k hk).1
/-- the room is another one behind a call -/
theorem PL.call (h : PL X Q B W w pb rb tv ov s now O) {v : Value} {e : Ending} (q : OFP Q v B W rb s' (PF X pb tv ov) w e w') (hn : s'.n = s.n) (hz : s'.z = s.z) : e = .returned v ∧ PL X Q B W w' pb rb tv ov s' now O :=
  ⟨q.1, h.keep q.2.2.1 q.2.2.2 q.2.1 hn hz⟩
theorem norun_any {F : Nat → Prop} (h : OF Q B W w rb s F) (t : Int) : Calls Tryz.prog 68 #[.pointer (some ⟨rb, 0, none⟩), .int .i64 t] w (VB (.bool (!(isn (nextV s t)) || (nxt (nextV s t)).k != 1)) w) := by
  obtain ⟨S, h1⟩ := h.at
  obtain ⟨k, n, u, b, hx, hk, hb⟩ : ∃ (k n : Int) (u : ByteArray) (b : Bool), nv (nextV s t) = .tuple #[.agg #[.int .i64 k, .int .i64 n, .string u], .bool b] ∧ (nxt (nextV s t)).k = k ∧ isn (nextV s t) = b := ⟨_, _, _, _, rfl, rfl, rfl⟩
  have HC := Q.next h1 h.iv t
  rw [hx] at HC
  have HC := Lib.hid HC
  rw [hk, hb]
  clear h h1 hx hk hb
  cases b with
  | false =>
    go_enter Tryz.func68, Tryz.ntmps68
    go_wp2_with fail
    refine HC.out.mono ?_
    rintro e w1 ⟨rfl, hb⟩
    have HB := Lib.hid (hb.alloc hb.size (.cells #[.int .i64 k, .int .i64 n, .string u] 57))
    clear hb
    go_wp2_with fail
    go_ret
    exact ⟨rfl, HB.out⟩
  | true =>
    go_enter Tryz.func68, Tryz.ntmps68
    go_wp2_with fail
    refine HC.out.mono ?_
    rintro e w1 ⟨rfl, hb⟩
    have HB := Lib.hid (hb.alloc hb.size (.cells #[.int .i64 k, .int .i64 n, .string u] 57))
    clear hb
    go_wp2_with fail
    go_ret
    exact ⟨rfl, HB.out⟩
theorem keep_pl {v0 v1 v2 : Value} (h : w.cell? ⟨pb, 0, none⟩ = some v0 ∧ w.cell? ⟨pb, 0 + 1, none⟩ = some v1 ∧ w.cell? ⟨pb, 0 + 2, none⟩ = some v2) (o : Obj) : (w.alloc o).cell? ⟨pb, 0, none⟩ = some v0 ∧ (w.alloc o).cell? ⟨pb, 0 + 1, none⟩ = some v1 ∧ (w.alloc o).cell? ⟨pb, 0 + 2, none⟩ = some v2 :=
  ⟨(World.cell?_alloc_lt w o _ (lt_of_cell h.1)).trans h.1, (World.cell?_alloc_lt w o _ (lt_of_cell h.2.1)).trans h.2.1, (World.cell?_alloc_lt w o _ (lt_of_cell h.2.2)).trans h.2.2⟩
set_option maxHeartbeats 8000000 in
theorem step_rel (h : PL X Q B W w pb rb tv ov s now O) (hp : Pl s now) (hO : O.length ≤ 900) (hnow : now ≤ 1000000) {x : Int} (hx0 : 0 ≤ x) (hx1 : x < 9600) (q : isRel s x) : Calls Tryz.prog 16 #[.pointer (some ⟨pb, 0, none⟩), .int .i64 x] w (PLP X Q (.bool true) B W pb rb tv (stepS s now x) (stepN s now x) (stepO s x O)) := by
  have hnow0 := hp.now0
  rw [show stepS s now x = relR s (relT s x) run64 now from if_pos q, show stepN s now x = now from if_pos q, show stepO s x O = O from if_pos q]
  obtain ⟨ta, tcap, rfl, ht1, ht2⟩ := (St.NT.tk h.tk).slice
  obtain ⟨q1, q2⟩ := q
  have hn4 := h.rm.iv.n4
  have d1 : (x.tmod 3 == 0) = true := by simpa using q1
  have hbw := below_drew (below_al w (.cells #[.int .i64 1, .int .i64 64, .string ⟨#[]⟩] 57))
  have hL : PL X Q B W (w.alloc (.cells #[.int .i64 1, .int .i64 64, .string ⟨#[]⟩] 57)).drew pb rb (.slice ta s.n tcap) ov s now O := h.below hbw
  have HA := Lib.hid (show AS (w.alloc (.cells #[.int .i64 1, .int .i64 64, .string ⟨#[]⟩] 57)).drew (.slice (some ⟨w.heap.size, 0, none⟩) 1 1) run64 from as_lit (l := run64) (heap_alloc_new w _) (show 1 ≤ maxLen by decide))
  have HC : Hid (Calls Tryz.prog 28 #[.pointer (some ⟨rb, 0, none⟩), .int .i64 (relT s x), .slice (some ⟨w.heap.size, 0, none⟩) 1 1, .int .i64 now] (w.alloc (.cells #[.int .i64 1, .int .i64 64, .string ⟨#[]⟩] 57)).drew (OFP Q (.int .i64 (relE s (relT s x) run64 now)) B W rb (relR s (relT s x) run64 now) (PF X pb (.slice ta s.n tcap) ov) (w.alloc (.cells #[.int .i64 1, .int .i64 64, .string ⟨#[]⟩] 57)).drew)) :=
    hL.rm.wr (hL.rm.iv.rel _ _ _) (fun S j => Q.rel j hL.rm.iv HA.out _ _)
  have HL := Lib.hid hL
  have HNZ := Lib.hid (relR_nz s (relT s x) run64 now)
  obtain ⟨c0, c1, c2, c3⟩ := h.cells
  have a0 : ∀ o, (w.alloc o).cell? ⟨pb, 0, none⟩ = some (.pointer (some ⟨rb, 0, none⟩)) := fun o => (World.cell?_alloc_lt w o _ (lt_of_cell c0)).trans c0
  have a1 : ∀ o, (w.alloc o).cell? ⟨pb, 0 + 1, none⟩ = some (.slice ta s.n tcap) := fun o => (World.cell?_alloc_lt w o _ (lt_of_cell c1)).trans c1
  have a2 : ∀ o, (w.alloc o).cell? ⟨pb, 0 + 2, none⟩ = some (.int .i64 now) := fun o => (World.cell?_alloc_lt w o _ (lt_of_cell c2)).trans c2
  have HT : Hid ((x.tdiv 3).tmod (s.n : Int) = relT s x) := rfl
  generalize relE s (relT s x) run64 now = er at *
  generalize relR s (relT s x) run64 now = s1 at *
  generalize relT s x = tr at *
  generalize hn : s.n = n at *
  have hnn : ((n : Int) == 0) = false := by simp; omega
  have hnz : ¬ (n : Int) = 0 := by omega
  have hnz2 : ¬ n = 0 := by omega
  have hnz3 : (n == 0) = false := by simpa using hnz2
  have hng : decide ((0 : Int) < (n : Int)) = true := by simp; omega
  have hng2 : decide (0 < n) = true := by simp; omega
  have hnl : n ≤ 4 := by omega
  obtain ⟨y, hy, hy0, hy1⟩ : ∃ y, x.tdiv 3 = y ∧ 0 ≤ y ∧ y ≤ 3200 := ⟨_, rfl, by rw [Int.tdiv_eq_ediv_of_nonneg hx0]; omega, by rw [Int.tdiv_eq_ediv_of_nonneg hx0]; omega⟩
  have hwy : wrap64 y = y := by first | exact wrap64_of (by omega) (by omega) | (unfold wrap64; omega)
  have hqt : y.tmod (n : Int) = tr := by rw [← hy]; exact HT.out
  have htr : 0 ≤ tr ∧ tr < 4 := by
    have e : tr = y % (n : Int) := by rw [← hqt, Int.tmod_eq_emod_of_nonneg hy0]
    have e1 := Int.emod_nonneg y hnz
    have e2 := Int.emod_lt_of_pos y (show (0 : Int) < n by omega)
    omega
  have hwr : IntKind.i64.wrap tr = tr := by rw [IntKind.wrap_i64]; omega
  have hwyi : IntKind.i64.wrap y = y := by rw [IntKind.wrap_i64]; omega
  have hwr2 : wrap64 tr = tr := by unfold wrap64; omega
  have hq1 : x.tmod 3 = 0 := q1
  have HN := Lib.hid hn
  clear hx0 hx1 d1 h hL hy0 hy1 hbw q1 q2 HT hn hn4
  have S0 : w.cell? ⟨pb, 0, none⟩ = some (.pointer (some ⟨rb, 0, none⟩)) ∧ w.cell? ⟨pb, 0 + 1, none⟩ = some (.slice ta n tcap) ∧ w.cell? ⟨pb, 0 + 2, none⟩ = some (.int .i64 now) := ⟨c0, c1, c2⟩
  have HS0 := Lib.hid S0
  have mixed : Tryz.prog.follows .mixedOrders = true := by kernel_rfl
  clear S0
  go_enter Tryz.func16, Tryz.ntmps16
  go_wp2_with fail
  go_region_held3 (fun w' => w'.cell? ⟨pb, 0, none⟩ = some (.pointer (some ⟨rb, 0, none⟩)) ∧ w'.cell? ⟨pb, 0 + 1, none⟩ = some (.slice ta n tcap) ∧ w'.cell? ⟨pb, 0 + 2, none⟩ = some (.int .i64 now))
    (first | assumption | exact HS0.out | exact keep_pl HS0.out _)
    (first
      | (go_at_call 28; refine HC.out.mono ?_; rintro e wn hq; obtain ⟨rfl, hl⟩ := HL.out.call hq (HNZ.out.1.trans HN.out.symm) HNZ.out.2; have hS : wn.cell? ⟨pb, 0, none⟩ = some (.pointer (some ⟨rb, 0, none⟩)) ∧ wn.cell? ⟨pb, 0 + 1, none⟩ = some (.slice ta n tcap) ∧ wn.cell? ⟨pb, 0 + 2, none⟩ = some (.int .i64 now) := ⟨hl.cells.1, hl.cells.2.1, hl.cells.2.2.1⟩; have HLW := Lib.hid hl; clear hl hq))
  all_goals
    go_wp2_with fail
    go_ret
    exact ⟨rfl, _, HLW.out⟩
set_option maxHeartbeats 8000000 in
theorem step_none (h : PL X Q B W w pb rb tv ov s now O) (hp : Pl s now) (hO : O.length ≤ 900) (hnow : now ≤ 1000000) {x : Int} (hx0 : 0 ≤ x) (hx1 : x < 9600) (q : ¬ isRel s x) (hw : who s = none) (hl : (Rq.Rd.srt s.L).length = 0) : Calls Tryz.prog 16 #[.pointer (some ⟨pb, 0, none⟩), .int .i64 x] w (PLP X Q (.bool true) B W pb rb tv (stepS s now x) (stepN s now x) (stepO s x O)) := by
  have hnow0 := hp.now0
  have hst : stepS s now x = s := by unfold stepS; rw [if_neg q, hw]
  have hso : stepO s x O = O := by unfold stepO; rw [if_neg q, hw]
  rw [hst, show stepN s now x = now + 1 from if_neg q, hso]
  clear hst hso
  obtain ⟨ta, tcap, rfl, ht1, ht2⟩ := (St.NT.tk h.tk).slice
  have hn4 := h.rm.iv.n4
  have d1 : (x.tmod 3 == 0) = false ∨ ((x.tmod 3 == 0) = true ∧ s.n = 0) := by
    by_cases e : x.tmod 3 = 0
    · exact Or.inr ⟨by simpa using e, by have : ¬ 0 < s.n := fun y => q ⟨e, y⟩; omega⟩
    · exact Or.inl (by simpa using e)
  obtain ⟨m3, hm3⟩ : ∃ m3, x.tmod 3 = m3 := ⟨_, rfl⟩
  rw [hm3] at d1
  clear hx0 hx1
  have HT := Lib.hid (h.tick (now + 1))
  obtain ⟨c0, c1, c2, c3⟩ := h.cells
  obtain ⟨e0, e1, e2, e3⟩ := HT.out.cells
  have f2 : w.frozen? ⟨pb, 0 + 2, none⟩ = false := frozen_of_row _ _ 2 _ _ h.ob
  have HW : Hid (Calls Tryz.prog 19 #[.pointer (some ⟨rb, 0, none⟩)] (w.setCell ⟨pb, 2, none⟩ (.int .i64 (now + 1))) (VB (.tuple #[.int .i64 0, .bool false]) (w.setCell ⟨pb, 2, none⟩ (.int .i64 (now + 1))))) := by
    obtain ⟨S, j⟩ := HT.out.rm.at
    have := Q.who j HT.out.rm.iv
    unfold whoV at this
    rw [hw] at this
    exact this
  have HJ := Lib.hid (show jobsV s = [] by unfold jobsV Rq.Rd.ids; rw [List.eq_nil_of_length_eq_zero hl]; rfl)
  generalize hn : s.n = n at *
  clear h q hw hl hp hn
  rcases d1 with d1 | ⟨d1, hn0⟩
  all_goals
    try subst hn0
    go_enter Tryz.func16, Tryz.ntmps16
    go_wp2_with fail
    refine HW.out.mono ?_
    rintro e w2 ⟨rfl, hb⟩
    have HT2 := Lib.hid (HT.out.below hb)
    obtain ⟨g0, g1, g2, g3⟩ := HT2.out.cells
    have HJ2 : Hid (Calls Tryz.prog 34 #[.pointer (some ⟨rb, 0, none⟩)] w2 (NumP w2 [])) := by
      obtain ⟨S, j⟩ := HT2.out.rm.at
      have := Q.jobs j HT2.out.rm.iv
      rw [HJ.out] at this
      exact this
    clear hb
    go_wp2_with fail
    refine HJ2.out.mono ?_
    rintro e w3 ⟨rv, rfl, hnr, hb⟩
    obtain ⟨xa, xc, hform⟩ := hnr.is_form
    subst hform
    have HT3 := Lib.hid (HT2.out.below hb)
    clear hnr hb g0 g1 g2 g3
    go_wp2_with fail
    go_ret
    exact ⟨rfl, _, HT3.out⟩
set_option maxHeartbeats 8000000 in
theorem step_unl (h : PL X Q B W w pb rb tv ov s now O) (hp : Pl s now) (hO : O.length ≤ 900) (hnow : now ≤ 1000000) {x : Int} (hx0 : 0 ≤ x) (hx1 : x < 9600) (q : ¬ isRel s x) {k : Nat} (hw : who s = some (k : Int)) (g : Goes s.ev s.dl s.E s.bg (k : Int)) (hk3 : kindX x = 3) : Calls Tryz.prog 16 #[.pointer (some ⟨pb, 0, none⟩), .int .i64 x] w (PLP X Q (.bool true) B W pb rb tv (stepS s now x) (stepN s now x) (stepO s x O)) := by
  have hnow0 := hp.now0
  have hst : stepS s now x = actS s k x := by unfold stepS; rw [if_neg q, hw]
  have hso : stepO s x O = actO s k x O := by unfold stepO; rw [if_neg q, hw]
  rw [hst, show stepN s now x = now + 1 from if_neg q, hso]
  clear hst hso
  obtain ⟨ta, tcap, rfl, ht1, ht2⟩ := (St.NT.tk h.tk).slice
  have hn4 := h.rm.iv.n4
  have d1 : (x.tmod 3 == 0) = false ∨ ((x.tmod 3 == 0) = true ∧ s.n = 0) := by
    by_cases e : x.tmod 3 = 0
    · exact Or.inr ⟨by simpa using e, by have : ¬ 0 < s.n := fun y => q ⟨e, y⟩; omega⟩
    · exact Or.inl (by simpa using e)
  have hin := hp.goes_in g
  have hkn : k < s.n := by omega
  have d1 : (x.tmod 3 == 0) = false := by
    rcases d1 with d1 | ⟨_, d2⟩
    · exact d1
    · omega
  obtain ⟨m3, hm3⟩ : ∃ m3, x.tmod 3 = m3 := ⟨_, rfl⟩
  rw [hm3] at d1
  obtain ⟨y, hy, hy0, hy1⟩ : ∃ y, x.tdiv 3 = y ∧ 0 ≤ y ∧ y ≤ 3200 := ⟨_, rfl, by rw [Int.tdiv_eq_ediv_of_nonneg hx0]; omega, by rw [Int.tdiv_eq_ediv_of_nonneg hx0]; omega⟩
  have hwy : wrap64 y = y := by unfold wrap64; omega
  obtain ⟨y2, hy2, hy20, hy21⟩ : ∃ y, x.tdiv 24 = y ∧ 0 ≤ y ∧ y ≤ 400 := ⟨_, rfl, by rw [Int.tdiv_eq_ediv_of_nonneg hx0]; omega, by rw [Int.tdiv_eq_ediv_of_nonneg hx0]; omega⟩
  have hwy2 : wrap64 y2 = y2 := by unfold wrap64; omega
  have hkd : y.tmod 8 = kindX x := by rw [← hy]; rfl
  have hrs : y2.tmod 4 = resX x := by rw [← hy2]; rfl
  have hrr : 0 ≤ resX x ∧ resX x < 4 := by rw [← hrs, Int.tmod_eq_emod_of_nonneg hy20]; omega
  have HA := Lib.hid hin.2.2
  have HG := Lib.hid g
  have HP := Lib.hid hp
  have HT := Lib.hid (h.tick (now + 1))
  have hs4 : actS s k x = unlRm s k := by unfold actS; rw [hk3]; rfl
  have ho4 : actO s k x O = if unlRE s k = 0 ∧ (heldV (unlRm s k) k).length = 0 then gone O k else O := by unfold actO; rw [hk3]; rfl
  obtain ⟨O', hO', w1, w2⟩ : ∃ O', actO s k x O = O' ∧ Hid (unlRE s k = 0 ∧ (heldV (unlRm s k) k).length = 0 → O' = gone O k) ∧ Hid (¬ (unlRE s k = 0 ∧ (heldV (unlRm s k) k).length = 0) → O' = O) := ⟨_, rfl, fun q => ho4.trans (if_pos q), fun q => ho4.trans (if_neg q)⟩
  rw [hs4, hO']
  clear hs4 ho4 hO'
  obtain ⟨c0, c1, c2, c3⟩ := h.cells
  obtain ⟨e0, e1, e2, e3⟩ := HT.out.cells
  have f2 : w.frozen? ⟨pb, 0 + 2, none⟩ = false := frozen_of_row _ _ 2 _ _ h.ob
  have HW : Hid (Calls Tryz.prog 19 #[.pointer (some ⟨rb, 0, none⟩)] (w.setCell ⟨pb, 2, none⟩ (.int .i64 (now + 1))) (VB (.tuple #[.int .i64 k, .bool true]) (w.setCell ⟨pb, 2, none⟩ (.int .i64 (now + 1))))) := by
    obtain ⟨S, j⟩ := HT.out.rm.at
    have := Q.who j HT.out.rm.iv
    unfold whoV at this
    rw [hw] at this
    exact this
  generalize resX x = rs at *
  generalize kindX x = kd at *
  generalize hn : s.n = n at *
  have HN := Lib.hid hn
  have z1 : decide ((k : Int) < 0) = false := by simp
  have z2 : decide ((n : Int) ≤ (k : Int)) = false := by simp; omega
  have z3 : decide (n ≤ k) = false := by simp; omega
  clear h q hw hp hn hin g hx0 hx1 hy0 hy1 hy20 hy21
  go_enter Tryz.func16, Tryz.ntmps16
  go_wp2_with fail
  refine HW.out.mono ?_
  rintro e w2 ⟨rfl, hb⟩
  have HT2 := Lib.hid (HT.out.below hb)
  clear hb HW HT c0 c1 c2 c3 e0 e1 e2 e3 f2
  obtain ⟨g0, g1, g2, g3⟩ := HT2.out.cells
  subst hk3
  have HC : Hid (Calls Tryz.prog 23 #[.pointer (some ⟨rb, 0, none⟩), .int .i64 k] w2 (OFP Q (.int .i64 (unlRE s k)) B W rb (unlRm s k) (PF X pb (.slice ta n tcap) ov) w2)) := HT2.out.rm.wr (HT2.out.rm.iv.unl k) (fun S j => Q.unlock j HT2.out.rm.iv k)
  have HNZ := Lib.hid (unlR_nz s k)
  generalize unlRE s k = er at *
  generalize unlRm s k = s1 at *
  by_cases he : er = 0
  · subst he
    obtain ⟨hv, hhv⟩ : ∃ hv, heldV s1 k = hv := ⟨_, rfl⟩
    have HHV := Lib.hid hhv
    rw [hhv] at w1 w2
    clear hhv
    go_wp2_with fail
    refine HC.out.mono ?_
    rintro e w3 hq
    obtain ⟨rfl, hl⟩ := HT2.out.call hq (HNZ.out.1) HNZ.out.2
    have HT3 := Lib.hid hl
    clear hl hq HC HT2 g0 g1 g2 g3
    obtain ⟨g0, g1, g2, g3⟩ := HT3.out.cells
    have HH : Hid (Calls Tryz.prog 18 #[.pointer (some ⟨rb, 0, none⟩), .int .i64 k] w3 (NumP w3 hv)) := by
      have := held_at (w' := w3) HT3.out.rm k
      rw [HHV.out] at this
      exact this
    go_wp2_with fail
    refine HH.out.mono ?_
    rintro e w4 ⟨rv, rfl, hnr, hb⟩
    obtain ⟨xa, xc, hform⟩ := hnr.is_form
    subst hform
    have HT4 := Lib.hid (HT3.out.below hb)
    clear hnr hb HH HT3 g0 g1 g2 g3
    obtain ⟨g0, g1, g2, g3⟩ := HT4.out.cells
    by_cases hz : hv.length = 0
    · obtain rfl := w1.out ⟨(by first | exact rfl | trivial), hz⟩
      clear w1 w2
      rw [hz]
      go_wp2_with fail
      refine (gone_any HT4.out (by omega) k).mono ?_
      rintro e w5 ⟨rfl, ov', hl⟩
      have HT5 := Lib.hid hl
      clear hl HT4 g0 g1 g2 g3
      go_wp2_with fail
      go_ret
      exact ⟨rfl, _, HT5.out⟩
    · obtain rfl := w2.out (fun y => hz y.2)
      clear w1 w2
      have hz2 : ((hv.length : Int) == 0) = false := by simp; intro e; exact hz (by rw [e]; rfl)
      have hz3 : (hv.length == 0) = false := by simpa using hz
      generalize hv.length = hvl at *
      go_wp2_with fail
      go_ret
      exact ⟨rfl, _, HT4.out⟩
  · obtain rfl := w2.out (fun y => he y.1)
    clear w1 w2
    have he2 : (er == 0) = false := by simpa using he
    clear he
    go_wp2_with fail
    refine HC.out.mono ?_
    rintro e w3 hq
    obtain ⟨rfl, hl⟩ := HT2.out.call hq (HNZ.out.1) HNZ.out.2
    have HT3 := Lib.hid hl
    clear hl hq HC HT2 g0 g1 g2 g3
    go_wp2_with fail
    go_ret
    exact ⟨rfl, _, HT3.out⟩
set_option maxHeartbeats 8000000 in
theorem step_fin (h : PL X Q B W w pb rb tv ov s now O) (hp : Pl s now) (hO : O.length ≤ 900) (hnow : now ≤ 1000000) {x : Int} (hx0 : 0 ≤ x) (hx1 : x < 9600) (q : ¬ isRel s x) {k : Nat} (hw : who s = some (k : Int)) (g : Goes s.ev s.dl s.E s.bg (k : Int)) (hk4 : kindX x = 4) : Calls Tryz.prog 16 #[.pointer (some ⟨pb, 0, none⟩), .int .i64 x] w (PLP X Q (.bool true) B W pb rb tv (stepS s now x) (stepN s now x) (stepO s x O)) := by
  have hnow0 := hp.now0
  have hst : stepS s now x = actS s k x := by unfold stepS; rw [if_neg q, hw]
  have hso : stepO s x O = actO s k x O := by unfold stepO; rw [if_neg q, hw]
  rw [hst, show stepN s now x = now + 1 from if_neg q, hso]
  clear hst hso
  obtain ⟨ta, tcap, rfl, ht1, ht2⟩ := (St.NT.tk h.tk).slice
  have hn4 := h.rm.iv.n4
  have d1 : (x.tmod 3 == 0) = false ∨ ((x.tmod 3 == 0) = true ∧ s.n = 0) := by
    by_cases e : x.tmod 3 = 0
    · exact Or.inr ⟨by simpa using e, by have : ¬ 0 < s.n := fun y => q ⟨e, y⟩; omega⟩
    · exact Or.inl (by simpa using e)
  have hin := hp.goes_in g
  have hkn : k < s.n := by omega
  have d1 : (x.tmod 3 == 0) = false := by
    rcases d1 with d1 | ⟨_, d2⟩
    · exact d1
    · omega
  obtain ⟨m3, hm3⟩ : ∃ m3, x.tmod 3 = m3 := ⟨_, rfl⟩
  rw [hm3] at d1
  obtain ⟨y, hy, hy0, hy1⟩ : ∃ y, x.tdiv 3 = y ∧ 0 ≤ y ∧ y ≤ 3200 := ⟨_, rfl, by rw [Int.tdiv_eq_ediv_of_nonneg hx0]; omega, by rw [Int.tdiv_eq_ediv_of_nonneg hx0]; omega⟩
  have hwy : wrap64 y = y := by unfold wrap64; omega
  obtain ⟨y2, hy2, hy20, hy21⟩ : ∃ y, x.tdiv 24 = y ∧ 0 ≤ y ∧ y ≤ 400 := ⟨_, rfl, by rw [Int.tdiv_eq_ediv_of_nonneg hx0]; omega, by rw [Int.tdiv_eq_ediv_of_nonneg hx0]; omega⟩
  have hwy2 : wrap64 y2 = y2 := by unfold wrap64; omega
  have hkd : y.tmod 8 = kindX x := by rw [← hy]; rfl
  have hrs : y2.tmod 4 = resX x := by rw [← hy2]; rfl
  have hrr : 0 ≤ resX x ∧ resX x < 4 := by rw [← hrs, Int.tmod_eq_emod_of_nonneg hy20]; omega
  have HA := Lib.hid hin.2.2
  have HG := Lib.hid g
  have HP := Lib.hid hp
  have HT := Lib.hid (h.tick (now + 1))
  have hs4 : actS s k x = endR s k := by unfold actS; rw [hk4]; rfl
  have ho4 : actO s k x O = gone O k := by unfold actO; rw [hk4]; rfl
  rw [hs4, ho4]
  clear hs4 ho4
  obtain ⟨c0, c1, c2, c3⟩ := h.cells
  obtain ⟨e0, e1, e2, e3⟩ := HT.out.cells
  have f2 : w.frozen? ⟨pb, 0 + 2, none⟩ = false := frozen_of_row _ _ 2 _ _ h.ob
  have HW : Hid (Calls Tryz.prog 19 #[.pointer (some ⟨rb, 0, none⟩)] (w.setCell ⟨pb, 2, none⟩ (.int .i64 (now + 1))) (VB (.tuple #[.int .i64 k, .bool true]) (w.setCell ⟨pb, 2, none⟩ (.int .i64 (now + 1))))) := by
    obtain ⟨S, j⟩ := HT.out.rm.at
    have := Q.who j HT.out.rm.iv
    unfold whoV at this
    rw [hw] at this
    exact this
  generalize resX x = rs at *
  generalize kindX x = kd at *
  generalize hn : s.n = n at *
  have HN := Lib.hid hn
  have z1 : decide ((k : Int) < 0) = false := by simp
  have z2 : decide ((n : Int) ≤ (k : Int)) = false := by simp; omega
  have z3 : decide (n ≤ k) = false := by simp; omega
  clear h q hw hp hn hin g hx0 hx1 hy0 hy1 hy20 hy21
  go_enter Tryz.func16, Tryz.ntmps16
  go_wp2_with fail
  refine HW.out.mono ?_
  rintro e w2 ⟨rfl, hb⟩
  have HT2 := Lib.hid (HT.out.below hb)
  clear hb HW HT c0 c1 c2 c3 e0 e1 e2 e3 f2
  obtain ⟨g0, g1, g2, g3⟩ := HT2.out.cells
  subst hk4
  have t0 : ((4 : Int) == 0) = false := rfl
  go_wp2_with fail
  refine (gone_any HT2.out (by omega) k).mono ?_
  rintro e w3 ⟨rfl, ov', hl⟩
  have HT3 := Lib.hid hl
  clear hl HT2 g0 g1 g2 g3
  obtain ⟨g0, g1, g2, g3⟩ := HT3.out.cells
  have HC : Hid (Calls Tryz.prog 27 #[.pointer (some ⟨rb, 0, none⟩), .int .i64 k] w3 (OFP Q (.bool true) B W rb (endR s k) (PF X pb (.slice ta n tcap) ov') w3)) := by
    have hb : endB s k = true := by unfold endB; rw [HA.out]; rfl
    have := HT3.out.rm.wr (HT3.out.rm.iv.fin k) (fun S j => Q.fin j HT3.out.rm.iv k)
    rw [hb] at this
    exact this
  go_wp2_with fail
  refine HC.out.mono ?_
  rintro e w4 hq
  obtain ⟨rfl, hl⟩ := HT3.out.call hq (endR_nz s k).1 (endR_nz s k).2
  have HT4 := Lib.hid hl
  clear hl hq HC HT3 g0 g1 g2 g3
  go_wp2_with fail
  go_ret
  exact ⟨rfl, _, HT4.out⟩
end
end Go.Proofs.YtkkmfpllgjoceaaGreat.Ro
