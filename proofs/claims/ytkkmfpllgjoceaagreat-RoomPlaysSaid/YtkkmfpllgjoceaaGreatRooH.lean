/- The program's room, written: Release. -/
import Derived.Test.YtkkmfpllgjoceaaGreatRooF
namespace Go.Proofs.YtkkmfpllgjoceaaGreat.Ro
open Go.RowKit Go.Sort Ac Jo
set_option linter.unusedVariables false
set_option maxRecDepth 100000

section
variable {m m' : Mm} {w w' : World} {rb : Nat} {s s' : Rm}
theorem relR_no {s : Rm} {t now : Int} {l : List Ak} {x : Int} (h : relE s t l now = x) (hx : x ≠ 0) : relR s t l now = s := by unfold relR; rw [if_neg (by rw [h]; exact hx)]
/-- the eight cells of a task of the room -/
theorem PRM.task (h : PRM m w rb s) {i : Nat} (hi : i < s.n) : ∃ a off cap, m.tv = .slice (some ⟨a, off, none⟩) s.n cap ∧ St.TC w a (off + i * 8) (s.z i) := by
  have htk := h.tk
  obtain ⟨ta, tcap, htv, _, _⟩ := htk.slice
  rw [htv] at htk
  obtain ⟨tb, off, e, tc⟩ := htk.at hi
  exact ⟨tb, off, tcap, by rw [htv, e], tc⟩
theorem rel_out {S : Nat → Prop} {v : Value} {l : List Ak} (h : PRM m w rb s) (hp : Jp m s) (hS : ∀ k, S k ↔ m.lab k ≠ 0) (hi : Rinv s) (hv : AS w v l) (t now : Int) (ht : t < 0 ∨ (s.n : Int) ≤ t) : Calls Tryz.prog 28 #[.pointer (some ⟨rb, 0, none⟩), .int .i64 t, v, .int .i64 now] w (RP JJ (.int .i64 (relE s t l now)) rb S (relR s t l now) w) := by
  have HL := lt_any h t
  have e1 : lackE s t = 9 := if_pos ht
  have e2 : relE s t l now = 9 := if_pos ht
  rw [e1] at HL
  have HL := Lib.hid HL
  rw [e2, relR_no e2 (by decide)]
  have HF : Hid (RP JJ (.int .i64 9) rb S s w (.returned (.int .i64 9)) w) := (Stp.refl h (Below.refl _ _)).rp hp hS
  clear h hp hS hi ht e1 e2 hv
  go_enter Tryz.func28, Tryz.ntmps28
  go_wp2_with fail
  refine HL.out.mono ?_
  rintro e w1 ⟨rfl, rfl⟩
  go_wp2_with fail
  go_ret
  exact HF.out
theorem rel_busy {S : Nat → Prop} {v : Value} {l : List Ak} (h : PRM m w rb s) (hp : Jp m s) (hS : ∀ k, S k ↔ m.lab k ≠ 0) (hi : Rinv s) (hv : AS w v l) (t now : Int) (ht : ¬ (t < 0 ∨ (s.n : Int) ≤ t)) (hd : 0 ≤ s.dl t) : Calls Tryz.prog 28 #[.pointer (some ⟨rb, 0, none⟩), .int .i64 t, v, .int .i64 now] w (RP JJ (.int .i64 (relE s t l now)) rb S (relR s t l now) w) := by
  have HL := lt_any h t
  have e1 : lackE s t = 0 := if_neg ht
  have e2 : relE s t l now = 141 := by unfold relE; rw [if_neg ht, if_pos hd]
  rw [e1] at HL
  have HL := Lib.hid HL
  rw [e2, relR_no e2 (by decide)]
  have HF : Hid (RP JJ (.int .i64 141) rb S s w (.returned (.int .i64 141)) w) := (Stp.refl h (Below.refl _ _)).rp hp hS
  obtain ⟨i, rfl⟩ : ∃ i : Nat, t = i := ⟨t.toNat, by omega⟩
  have hin : i < s.n := by omega
  obtain ⟨c0, c1, c2, c3, c4⟩ := h.cells
  have cj := h.jcell hin
  rw [show m.jp i = .pointer (some ⟨m.ja i, 0, none⟩) from if_pos (by rw [hp i hin]; simpa using hd)] at cj
  generalize m.ja i = ja at *
  generalize m.jv = jv at *
  clear h hp hS hi e1 e2 hv hd c0 c1 c2 c3
  generalize s.n = n at c4 hin ht
  go_enter Tryz.func28, Tryz.ntmps28
  go_wp2_with fail
  refine HL.out.mono ?_
  rintro e w1 ⟨rfl, rfl⟩
  go_wp2_with fail
  go_ret
  exact HF.out
theorem rel_new {S : Nat → Prop} {v : Value} {l : List Ak} (h : PRM m w rb s) (hp : Jp m s) (hS : ∀ k, S k ↔ m.lab k ≠ 0) (hi : Rinv s) (hv : AS w v l) (t now : Int) (ht : ¬ (t < 0 ∨ (s.n : Int) ≤ t)) (hd : s.dl t < 0) (er : Int) (he : er ≠ 0) (e2 : relE s t l now = er) (HN : Calls Tryz.prog 89 #[tv (s.t t), v, .int .i64 now] w (NoP er w)) : Calls Tryz.prog 28 #[.pointer (some ⟨rb, 0, none⟩), .int .i64 t, v, .int .i64 now] w (RP JJ (.int .i64 (relE s t l now)) rb S (relR s t l now) w) := by
  have HL := lt_any h t
  have e1 : lackE s t = 0 := if_neg ht
  rw [e1] at HL
  have HL := Lib.hid HL
  obtain ⟨i, rfl⟩ : ∃ i : Nat, t = i := ⟨t.toNat, by omega⟩
  have hin : i < s.n := by omega
  obtain ⟨c0, c1, c2, c3, c4⟩ := h.cells
  have cj := h.jcell hin
  rw [show m.jp i = .pointer none from if_neg (by rw [hp i hin]; simp; omega)] at cj
  obtain ⟨ta, off, tcap, htv, ⟨t0, t1, t2, t3, t4, t5, t6, t7⟩⟩ := h.task hin
  rw [htv] at c2
  have htok := hi.tok i hin
  rw [e2, relR_no e2 he]
  have HF : Hid (∀ w', Below w.heap.size w w' → RP JJ (.int .i64 er) rb S s w (.returned (.int .i64 er)) w') := fun w' hb => (Stp.refl h hb).rp hp hS
  have hx : (er != 0) = true := by simpa using he
  have HN : Hid (Calls Tryz.prog 89 #[tv (s.z i), v, .int .i64 now] w (NoP er w)) := HN
  unfold tv at HN
  generalize s.z i 0 = z0 at *
  generalize s.z i 1 = z1 at *
  generalize s.z i 2 = z2 at *
  generalize s.z i 3 = z3 at *
  generalize s.z i 4 = z4 at *
  generalize s.z i 5 = z5 at *
  generalize s.z i 6 = z6 at *
  generalize s.z i 7 = z7 at *
  generalize m.jv = jv at *
  clear h hp hS hi e1 e2 hv hd c0 c1 c3 htv htok he
  generalize s.n = n at c4 hin ht c2
  go_enter Tryz.func28, Tryz.ntmps28
  go_wp2_with fail
  refine HL.out.mono ?_
  rintro e w1 ⟨rfl, rfl⟩
  go_wp2_with fail
  refine HN.out.mono ?_
  rintro e w2 ⟨rfl, hb⟩
  have HE := Lib.hid (HF.out _ hb)
  clear hb HF HN
  go_wp2_with fail
  go_ret
  exact HE.out
theorem guard_same {s : Rm} {i : Nat} : ({ s with G := fun k => if k = i then s.G i else s.G k } : Rm) = s := by
  have : (fun k => if k = i then s.G i else s.G k) = s.G := by
    funext k
    by_cases e : k = i
    · rw [if_pos e, e]
    · rw [if_neg e]
  rw [this]
set_option maxHeartbeats 1000000 in
theorem rel_early {S : Nat → Prop} {v : Value} {l : List Ak} (h : PRM m w rb s) (hp : Jp m s) (hS : ∀ k, S k ↔ m.lab k ≠ 0) (hi : Rinv s) (hv : AS w v l) (t now : Int) (ht : ¬ (t < 0 ∨ (s.n : Int) ≤ t)) (hd : s.dl t < 0) (h0 : 0 ≤ now) (h1 : now ≤ 1099511627776) (hg : Gd l) (hw : Sg.Sp.wt (s.G t.toNat) now ≠ 0) (e2 : relE s t l now = Sg.Sp.wt (s.G t.toNat) now) : Calls Tryz.prog 28 #[.pointer (some ⟨rb, 0, none⟩), .int .i64 t, v, .int .i64 now] w (RP JJ (.int .i64 (relE s t l now)) rb S (relR s t l now) w) := by
  have HL := lt_any h t
  have e1 : lackE s t = 0 := if_neg ht
  rw [e1] at HL
  have HL := Lib.hid HL
  obtain ⟨i, rfl⟩ : ∃ i : Nat, t = i := ⟨t.toNat, by omega⟩
  have hin : i < s.n := by omega
  obtain ⟨c0, c1, c2, c3, c4⟩ := h.cells
  have cj := h.jcell hin
  rw [show m.jp i = .pointer none from if_neg (by rw [hp i hin]; simp; omega)] at cj
  obtain ⟨ta, off, tcap, htv, ⟨t0, t1, t2, t3, t4, t5, t6, t7⟩⟩ := h.task hin
  rw [htv] at c2
  have htok := hi.tok i hin
  rw [e2, relR_no e2 hw]
  have HN : Hid (Calls Tryz.prog 89 #[tv (s.z i), v, .int .i64 now] w (PNew (fresh (s.z i) (now + s.z i 1) l) w)) := pn_ok (s.z i) now hv htok h0 h1 hg
  have hx : (Sg.Sp.wt (s.G i) now != 0) = true := by simpa using hw
  obtain ⟨gc, hgv⟩ := h.gf (by omega)
  have cg := h.gs i hin
  rw [hgv] at c3
  have HG : Hid (∀ w1, Below w.heap.size w w1 → Calls Tryz.prog 90 #[.pointer (some ⟨m.ga i, 0, none⟩), .int .i64 now] w1 (fun e w2 => e = .returned (.int .i64 (Sg.Sp.wt (s.G i) now)) ∧ RP JJ (.int .i64 (Sg.Sp.wt (s.G i) now)) rb S s w (.returned (.int .i64 (Sg.Sp.wt (s.G i) now))) w2)) := fun w1 hb => by
    refine (Sg.release_any ((h.below hb).gd i hin) (hi.g0 i hin) now).mono ?_
    rintro e w2 ⟨rfl, g1, g2⟩
    have e3 : Sg.Sp.rl (s.z i 0) (s.G i) now = s.G i := if_neg hw
    rw [e3] at g1
    obtain ⟨q1, q2⟩ := (h.below hb).guard hin g1 g2
    rw [guard_same] at q1
    exact ⟨rfl, ((Stp.refl h hb).trans ⟨q1, fun k hk => Or.inl hk, q2⟩).rp hp hS⟩
  show Calls Tryz.prog 28 #[.pointer (some ⟨rb, 0, none⟩), .int .i64 i, v, .int .i64 now] w (RP JJ (.int .i64 (Sg.Sp.wt (s.G i) now)) rb S s w)
  generalize Sg.Sp.wt (s.G i) now = x at *
  generalize fresh (s.z i) (now + s.z i 1) l = jj at *
  unfold tv at HN
  generalize s.z i 0 = z0 at *
  generalize s.z i 1 = z1 at *
  generalize s.z i 2 = z2 at *
  generalize s.z i 3 = z3 at *
  generalize s.z i 4 = z4 at *
  generalize s.z i 5 = z5 at *
  generalize s.z i 6 = z6 at *
  generalize s.z i 7 = z7 at *
  generalize m.jv = jv at *
  generalize m.gb = gb at *
  generalize m.ga i = ga at *
  clear h hp hS hi e1 e2 hv hd c0 c1 htv htok hgv hw hg h0 h1
  generalize s.n = n at c4 hin ht c2 c3
  go_enter Tryz.func28, Tryz.ntmps28
  go_wp2_with fail
  refine HL.out.mono ?_
  rintro e w1 ⟨rfl, rfl⟩
  go_wp2_with fail
  refine HN.out.mono ?_
  rintro e w2 ⟨jb, rg, g, rfl, _, _, _, _, hb⟩
  have d3 := (hb.cell (lt_of_cell c3)).trans c3
  have dg := (hb.cell (lt_of_cell cg)).trans cg
  have HB := Lib.hid hb
  clear hb HN c2 c3 c4 cj cg t0 t1 t2 t3 t4 t5 t6 t7
  go_wp2_with fail
  refine (HG.out _ HB.out).mono ?_
  rintro e w3 ⟨rfl, hE⟩
  have HE := Lib.hid hE
  clear hE HG HB d3 dg
  go_wp2_with fail
  go_ret
  exact HE.out
set_option maxHeartbeats 2000000 in
theorem rel_ok {S : Nat → Prop} {v : Value} {l : List Ak} (h : PRM m w rb s) (hp : Jp m s) (hS : ∀ k, S k ↔ m.lab k ≠ 0) (hi : Rinv s) (hv : AS w v l) (t now : Int) (ht : ¬ (t < 0 ∨ (s.n : Int) ≤ t)) (hd : s.dl t < 0) (h0 : 0 ≤ now) (h1 : now ≤ 1099511627776) (hg : Gd l) (hw : Sg.Sp.wt (s.G t.toNat) now = 0) (e2 : relE s t l now = 0) : Calls Tryz.prog 28 #[.pointer (some ⟨rb, 0, none⟩), .int .i64 t, v, .int .i64 now] w (RP JJ (.int .i64 (relE s t l now)) rb S (relR s t l now) w) := by
  have HL := lt_any h t
  have e1 : lackE s t = 0 := if_neg ht
  rw [e1] at HL
  have HL := Lib.hid HL
  obtain ⟨i, rfl⟩ : ∃ i : Nat, t = i := ⟨t.toNat, by omega⟩
  have hin : i < s.n := by omega
  obtain ⟨c0, c1, c2, c3, c4⟩ := h.cells
  have cj := h.jcell hin
  rw [show m.jp i = .pointer none from if_neg (by rw [hp i hin]; simp; omega)] at cj
  obtain ⟨ta, off, tcap, htv, ⟨t0, t1, t2, t3, t4, t5, t6, t7⟩⟩ := h.task hin
  rw [htv] at c2
  have htok := hi.tok i hin
  have hbd := tok_bd htok
  have e3 : relR s i l now = { s with L := s.L.set i (now + s.z i 1), J := fun k => if k = i then fresh (s.z i) (now + s.z i 1) l else s.J k, G := fun k => if k = i then now + s.z i 0 else s.G k } := by unfold relR; rw [if_pos e2]; rfl
  rw [e2, e3]
  have HN : Hid (Calls Tryz.prog 89 #[tv (s.z i), v, .int .i64 now] w (PNew (fresh (s.z i) (now + s.z i 1) l) w)) := pn_ok (s.z i) now hv htok h0 h1 hg
  obtain ⟨gc, hgv⟩ := h.gf (by omega)
  have cg := h.gs i hin
  rw [hgv] at c3
  -- the guard; the job is put in
  have HG : Hid (∀ w1 jb rg g, Below w.heap.size w w1 → PJ w1 jb rg g (fresh (s.z i) (now + s.z i 1) l) → w.heap.size ≤ jb → w.heap.size ≤ rg → w.heap.size ≤ g →
      Calls Tryz.prog 90 #[.pointer (some ⟨m.ga i, 0, none⟩), .int .i64 now] w1 (fun e w2 => e = .returned (.int .i64 0) ∧ w2.cell? ⟨rb, 0 + 4, none⟩ = some (.slice (some ⟨m.jv, 0, none⟩) s.n s.n) ∧ (∃ u, w2.cell? ⟨m.jv, i, none⟩ = some u) ∧ w2.frozen? ⟨m.jv, i, none⟩ = false ∧
        ∃ m3, Stp m w rb m3 (w2.setCell ⟨m.jv, i, none⟩ (.pointer (some ⟨jb, 0, none⟩))) { s with J := fun k => if k = i then fresh (s.z i) (now + s.z i 1) l else s.J k, G := fun k => if k = i then now + s.z i 0 else s.G k } ∧ m3.p = (fun k => if k = i then true else m.p k) ∧
          PJ (w2.setCell ⟨m.jv, i, none⟩ (.pointer (some ⟨jb, 0, none⟩))) jb rg g (fresh (s.z i) (now + s.z i 1) l))) := fun w1 jb rg g hb hj b1 b2 b3 => by
    refine (Sg.release_any ((h.below hb).gd i hin) (hi.g0 i hin) now).mono ?_
    rintro e w2 ⟨rfl, g1, g2⟩
    have e4 : Sg.Sp.rl (s.z i 0) (s.G i) now = now + s.z i 0 := if_pos hw
    rw [e4] at g1
    obtain ⟨q1, q2⟩ := (h.below hb).guard hin g1 g2
    have hlab : ∀ k, w.heap.size ≤ k → m.lab k = 0 := fun k hk => Decidable.byContradiction fun y => by have := h.lt k y; omega
    have hTri : ∀ k, Tri jb rg g k → w.heap.size ≤ k := by rintro k (rfl | rfl | rfl) <;> assumption
    have hga := h.lt (m.ga i) (by rw [h.l7 i hin]; omega)
    have hjv := h.lt m.jv (by rw [h.l6]; decide)
    have hj2 : PJ w2 jb rg g (fresh (s.z i) (now + s.z i 1) l) := pj_keep hj (fun k hk => by
      have h1 := hTri k hk
      refine g2.block k ?_ (by omega)
      rcases hk with rfl | rfl | rfl
      · exact hj.lt
      · exact hj.rw.lt
      · exact hj.gl) g2.size
    have hj3 : PJ (w2.setCell ⟨m.jv, i, none⟩ (.pointer (some ⟨jb, 0, none⟩))) jb rg g (fresh (s.z i) (now + s.z i 1) l) := pj_keep hj2 (fun k hk => Below.heap_setCell _ _ _ _ (fun e => by have h1 := hTri k hk; have h2 : k = m.jv := e; omega)) (by rw [set_size]; exact Nat.le_refl _)
    obtain ⟨⟨m3, p1, p2, p3, p4⟩, p5⟩ := q1.put hin hj2 (fun k hk => hlab k (hTri k hk))
    have hst : Stp m w rb m w2 { s with G := fun k => if k = i then now + s.z i 0 else s.G k } := (Stp.refl h hb).trans ⟨q1, fun k hk => Or.inl hk, q2⟩
    refine ⟨by rw [show Sg.Sp.wt (s.G i) now = 0 from hw], q1.cells.2.2.2.2, ⟨_, q1.jcell hin⟩, frozen_of_row _ _ i _ _ q1.jo, m3, ⟨p1, fun k hk => ?_, ?_⟩, p2, hj3⟩
    · rcases p4 k hk with y | y
      · exact Or.inl y
      · exact Or.inr (hTri k y)
    · exact hst.on.trans p5
  -- the queue
  have HQ : Hid (∀ w3 m3 jb rg g, Stp m w rb m3 w3 { s with J := fun k => if k = i then fresh (s.z i) (now + s.z i 1) l else s.J k, G := fun k => if k = i then now + s.z i 0 else s.G k } → m3.p = (fun k => if k = i then true else m.p k) → PJ w3 jb rg g (fresh (s.z i) (now + s.z i 1) l) →
      w3.cell? ⟨rb, 0 + 1, none⟩ = some (.pointer (some ⟨m3.qb, 0, none⟩)) ∧ (∀ W, Below w3.heap.size w3 W → Calls Tryz.prog 70 #[.pointer (some ⟨jb, 0, none⟩)] W (VB (.int .i64 (now + s.z i 1)) W)) ∧
      (∀ W, Below w3.heap.size w3 W → Calls Tryz.prog 91 #[.pointer (some ⟨m3.qb, 0, none⟩), .int .i64 i, .int .i64 (now + s.z i 1)] W (fun e W2 => e = .returned (.int .i64 0) ∧ W2.cell? ⟨rb, 0 + 1, none⟩ = some (.pointer (some ⟨m3.qb, 0, none⟩)) ∧ RP JJ (.int .i64 0) rb S { s with L := s.L.set i (now + s.z i 1), J := fun k => if k = i then fresh (s.z i) (now + s.z i 1) l else s.J k, G := fun k => if k = i then now + s.z i 0 else s.G k } w (.returned (.int .i64 0)) W2))) := fun w3 m3 jb rg g q1 q2 q3 => by
    refine ⟨q1.pr.cells.2.1, fun W hW => pj_dead (q3.below hW), fun W hW => ?_⟩
    have hqE : Rq.Rd.qE s.L i (now + s.z i 1) = 0 := by
      have hd' : Rq.Rd.dl s.L (i : Int) < 0 := hd
      have hlen := hi.len
      unfold Rq.Rd.qE
      rw [if_neg (by omega), if_neg (by omega), if_neg (by omega)]
    have hqL : Rq.Rd.qL s.L i (now + s.z i 1) = s.L.set i (now + s.z i 1) := by unfold Rq.Rd.qL; rw [if_pos hqE]; rfl
    have := Rq.qput_any (q1.pr.below hW).qs i (now + s.z i 1)
    rw [show ({ s with J := fun k => if k = i then fresh (s.z i) (now + s.z i 1) l else s.J k, G := fun k => if k = i then now + s.z i 0 else s.G k } : Rm).L = s.L from rfl, hqE, hqL] at this
    refine this.mono ?_
    rintro e W2 ⟨rfl, ⟨g', r1, r2⟩, r3⟩
    obtain ⟨⟨m4, t1, t2, t3⟩, t4⟩ := (q1.pr.below hW).queue r1 r2 r3
    have hst := (q1.below hW).trans ⟨t1, t3, t4⟩
    refine ⟨rfl, ?_, hst.rp (fun k hk => ?_) hS⟩
    · have hc := (q1.pr.below hW).cells.2.1
      refine (World.cell?_of_block (r3.block rb (lt_of_cell hc) ?_)).trans hc
      obtain ⟨l1, l2, l3, l4⟩ := q1.pr.l3
      have l5 := q1.pr.l1
      rintro (e | e)
      · rw [e, l3] at l5; cases l5
      · rw [e, l4] at l5; cases l5
    · show m4.p k = decide (0 ≤ Rq.Rd.dl (s.L.set i (now + s.z i 1)) (k : Int))
      rw [t2, q2]
      have hdl := Rq.Rd.dl_set (L := s.L) (t := (i : Int)) (by omega) (by rw [hi.len]; omega) (now + s.z i 1) (k : Int)
      rw [show ((i : Int).toNat) = i from rfl] at hdl
      rw [hdl]
      show (if k = i then true else m.p k) = _
      by_cases e : k = i
      · subst e
        rw [if_pos rfl, if_pos rfl]
        exact (decide_eq_true (by omega)).symm
      · rw [if_neg e, if_neg (by omega)]
        exact hp k hk
  have HX : Hid (now + s.z i 1 = now + s.z i 1) := rfl
  generalize ({ s with L := s.L.set i (now + s.z i 1), J := fun k => if k = i then fresh (s.z i) (now + s.z i 1) l else s.J k, G := fun k => if k = i then now + s.z i 0 else s.G k } : Rm) = sF at *
  generalize ({ s with J := fun k => if k = i then fresh (s.z i) (now + s.z i 1) l else s.J k, G := fun k => if k = i then now + s.z i 0 else s.G k } : Rm) = sG at *
  generalize fresh (s.z i) (now + s.z i 1) l = jj at *
  generalize now + s.z i 1 = dd at *
  unfold tv at HN
  generalize s.z i 0 = z0 at *
  generalize s.z i 1 = z1 at *
  generalize s.z i 2 = z2 at *
  generalize s.z i 3 = z3 at *
  generalize s.z i 4 = z4 at *
  generalize s.z i 5 = z5 at *
  generalize s.z i 6 = z6 at *
  generalize s.z i 7 = z7 at *
  generalize m.ga i = ga at *
  clear h hp hS hi e1 e2 e3 hv hd c0 c1 htv htok hgv hw hg h0 h1 hbd HX
  generalize m.jv = jv at *
  generalize m.gb = gb at *
  generalize s.n = n at *
  go_enter Tryz.func28, Tryz.ntmps28
  go_wp2_with fail
  refine HL.out.mono ?_
  rintro e w1 ⟨rfl, rfl⟩
  go_wp2_with fail
  refine HN.out.mono ?_
  rintro e w2 ⟨jb, rg, g, rfl, hj, b1, b2, b3, hb⟩
  have d3 := (hb.cell (lt_of_cell c3)).trans c3
  have dg := (hb.cell (lt_of_cell cg)).trans cg
  have HGC := Lib.hid (HG.out _ _ _ _ hb hj b1 b2 b3)
  clear hb HN c2 c3 c4 cj cg t0 t1 t2 t3 t4 t5 t6 t7 HG hj b1 b2 b3
  go_wp2_with fail
  refine HGC.out.mono ?_
  rintro e w3 ⟨rfl, f4, ⟨fu, fj⟩, ff, m3, q1, q2, q3⟩
  obtain ⟨s1, HD, HP⟩ := HQ.out _ _ _ _ _ q1 q2 q3
  have HD := Lib.hid HD
  have HP := Lib.hid HP
  clear HGC d3 dg q1 q2 q3 HQ
  generalize m3.qb = qb at *
  obtain ⟨W0, hW0⟩ : ∃ W0, W0 = w3.setCell ⟨jv, i, none⟩ (.pointer (some ⟨jb, 0, none⟩)) := ⟨_, rfl⟩
  rw [← hW0] at s1 HD HP
  have HW0 := Lib.hid hW0
  clear hW0
  go_wp2_with fail
  rw [← HW0.out]
  clear HW0 f4 fj ff
  have HS0 := Lib.hid s1
  go_region_held3 (fun w' => w'.cell? ⟨rb, 0 + 1, none⟩ = some (.pointer (some ⟨qb, 0, none⟩)))
    (first | assumption | exact HS0.out | go_keep)
    (first | (go_at_call 70; refine (HD.out _ (by first | exact Below.refl _ _ | exact (Below.refl _ _).drew)).mono ?_; rintro e w4 ⟨rfl, hb4⟩; have HB4 := Lib.hid (show Below W0.heap.size W0 w4 from chn (Below.drew (Below.refl _ _)) hb4); have hS4 : w4.cell? ⟨rb, 0 + 1, none⟩ = some (.pointer (some ⟨qb, 0, none⟩)) := (HB4.out.cell (lt_of_cell HS0.out)).trans HS0.out)
           | (go_at_call 91; refine (HP.out _ HB4.out).mono ?_; rintro e w5 ⟨rfl, hS5, hrp⟩; have HE := Lib.hid hrp; clear hrp))
  all_goals
    go_wp2_with fail
    go_ret
    exact HE.out
theorem rel_any {S : Nat → Prop} {v : Value} {l : List Ak} (h : PRM m w rb s) (hp : Jp m s) (hS : ∀ k, S k ↔ m.lab k ≠ 0) (hi : Rinv s) (hv : AS w v l) (t now : Int) : Calls Tryz.prog 28 #[.pointer (some ⟨rb, 0, none⟩), .int .i64 t, v, .int .i64 now] w (RP JJ (.int .i64 (relE s t l now)) rb S (relR s t l now) w) := by
  by_cases ht : t < 0 ∨ (s.n : Int) ≤ t
  · exact rel_out h hp hS hi hv t now ht
  by_cases hd : 0 ≤ s.dl t
  · exact rel_busy h hp hS hi hv t now ht hd
  have hd : s.dl t < 0 := by omega
  have htk : tok (s.t t) = true := hi.tok t.toNat (by omega)
  have hE : relE s t l now = if now < 0 then 2 else if 1099511627776 < now then 10 else if newE l ≠ 0 then newE l else Sg.Sp.wt (s.G t.toNat) now := by unfold relE; rw [if_neg ht, if_neg (by omega)]
  by_cases hn : now < 0
  · exact rel_new h hp hS hi hv t now ht hd 2 (by decide) (by rw [hE, if_pos hn]) (pn_neg _ now hv htk hn)
  by_cases hm : 1099511627776 < now
  · exact rel_new h hp hS hi hv t now ht hd 10 (by decide) (by rw [hE, if_neg hn, if_pos hm]) (pn_over _ now hv htk (by omega) hm)
  rw [if_neg hn, if_neg hm] at hE
  rcases newE_or l with ⟨hl, he⟩ | ⟨hg, he⟩ | ⟨hl, h2, he⟩
  · exact rel_new h hp hS hi hv t now ht hd 5 (by decide) (by rw [hE, he, if_pos (by decide)]) (pn_err _ now hv htk (by omega) (by omega) (by decide) (fun W v q => new_lim q hl))
  · rw [he, if_neg (by decide)] at hE
    by_cases hw : Sg.Sp.wt (s.G t.toNat) now = 0
    · exact rel_ok h hp hS hi hv t now ht hd (by omega) (by omega) hg hw (by rw [hE, hw])
    · exact rel_early h hp hS hi hv t now ht hd (by omega) (by omega) hg hw hE
  · exact rel_new h hp hS hi hv t now ht hd 2 (by decide) (by rw [hE, he, if_pos (by decide)]) (pn_err _ now hv htk (by omega) (by omega) (by decide) (fun W v q => new_no q hl h2))
end
end Go.Proofs.YtkkmfpllgjoceaaGreat.Ro
