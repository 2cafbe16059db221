/- The document's room: is there a task, a job; it read; what its jobs do. -/
import Derived.Test.YtkkmfpllgjoceaaGreatRooRm
import Derived.Test.YtkkmfpllgjoceaaGreatRooC
import Derived.Deep.RegionHeld3
import Derived.Lib.QuietBelow
namespace Go.Proofs.YtkkmfpllgjoceaaGreat.Ro.Dr
open Go.RowKit Go.Sort Ac Jo Ro
set_option linter.unusedVariables false
set_option maxRecDepth 100000

section
variable {m : Mm} {w w' : World} {rb : Nat} {s : Rm}
theorem PRM.cells (h : PRM m w rb s) : w.cell? ⟨rb, 0, none⟩ = some m.tv ∧ w.cell? ⟨rb, 0 + 1, none⟩ = some m.gv ∧ w.cell? ⟨rb, 0 + 2, none⟩ = some (.pointer (some ⟨m.qb, 0, none⟩)) ∧ w.cell? ⟨rb, 0 + 3, none⟩ = some (.pointer (some ⟨m.sb, 0, none⟩)) ∧ w.cell? ⟨rb, 0 + 4, none⟩ = some (.slice (some ⟨m.jv, 0, none⟩) s.n s.n) :=
  ⟨cell_of_row _ _ 0 _ _ _ h.ob, cell_of_row _ _ 1 _ _ _ h.ob, cell_of_row _ _ 2 _ _ _ h.ob, cell_of_row _ _ 3 _ _ _ h.ob, cell_of_row _ _ 4 _ _ _ h.ob⟩
theorem PRM.jcell (h : PRM m w rb s) {i : Nat} (hi : i < s.n) : w.cell? ⟨m.jv, i, none⟩ = some (m.jp i) := by
  have := cell_of_row _ _ i _ _ _ h.jo
  rw [jcl_at _ _ _ hi] at this
  exact this
/-- of which tasks there are jobs -/
def Jp (m : Mm) (s : Rm) : Prop := ∀ i, i < s.n → m.p i = decide (0 ≤ s.dl i)
theorem asked_p (hp : Jp m s) {t : Int} (h : asked s t = 0) : ∃ i : Nat, t = i ∧ i < s.n ∧ m.p i = true ∧ m.jp i = .pointer (some ⟨m.ja i, 0, none⟩) ∧ s.j t = s.J i := by
  obtain ⟨a1, a2, a3⟩ := asked_in h
  refine ⟨t.toNat, by omega, by omega, ?_, ?_, rfl⟩
  · rw [hp _ (by omega), show ((t.toNat : Nat) : Int) = t by omega]; simpa using a3
  · unfold Mm.jp
    rw [hp _ (by omega), show ((t.toNat : Nat) : Int) = t by omega, if_pos (by simpa using a3)]
theorem asked_cases (hp : Jp m s) (t : Int) : (lackE s t = 9 ∧ asked s t = 9) ∨ (∃ i : Nat, t = i ∧ i < s.n ∧ lackE s t = 0 ∧ m.jp i = .pointer none ∧ asked s t = 250) ∨ (∃ i : Nat, t = i ∧ i < s.n ∧ lackE s t = 0 ∧ m.jp i = .pointer (some ⟨m.ja i, 0, none⟩) ∧ asked s t = 0) := by
  by_cases h : t < 0 ∨ (s.n : Int) ≤ t
  · exact Or.inl ⟨if_pos h, if_pos h⟩
  · right
    have e0 : t = ((t.toNat : Nat) : Int) := by omega
    have hd := hp t.toNat (by omega)
    rw [← e0] at hd
    unfold asked lackE Mm.jp
    rw [if_neg h, if_neg h]
    by_cases hd2 : s.dl t < 0
    · refine Or.inl ⟨t.toNat, e0, by omega, rfl, ?_, if_pos hd2⟩
      rw [hd, if_neg (by simp; omega)]
    · refine Or.inr ⟨t.toNat, e0, by omega, rfl, ?_, if_neg hd2⟩
      rw [hd, if_pos (by simp; omega)]
/-- a job that there is: its cells -/
theorem PRM.jf (h : PRM m w rb s) {i : Nat} (hi : i < s.n) (hp : m.p i = true) : w.cell? ⟨m.jv, i, none⟩ = some (.pointer (some ⟨m.ja i, 0, none⟩)) ∧ w.cell? ⟨m.ja i, 0 + 9, none⟩ = some (.int .i64 (s.J i).e) ∧ w.cell? ⟨m.ja i, 0 + 11, none⟩ = some (.int .i64 (s.J i).c) ∧ w.cell? ⟨m.ja i, 0 + 14, none⟩ = some (.bool (s.J i).b) := by
  have h1 := h.jcell hi
  rw [show m.jp i = .pointer (some ⟨m.ja i, 0, none⟩) from if_pos hp] at h1
  have h2 := (h.jb i hi hp).ob
  exact ⟨h1, cell_of_row _ _ 9 _ _ _ h2, cell_of_row _ _ 11 _ _ _ h2, cell_of_row _ _ 14 _ _ _ h2⟩
theorem asked_any (h : PRM m w rb s) (hp : Jp m s) (t : Int) : Calls Tryz.prog 106 #[.pointer (some ⟨rb, 0, none⟩), .int .i64 t] w (IsI (asked s t) w) := by
  obtain ⟨c0, c1, c2, c3, c4⟩ := h.cells
  obtain ⟨a, cap, ht, hc1, hc2⟩ := h.tk.slice
  rw [ht] at c0
  obtain ⟨n, hn⟩ : ∃ n, n = s.n := ⟨_, rfl⟩
  by_cases ho : t < 0 ∨ (s.n : Int) ≤ t
  · have q : asked s t = 9 := if_pos ho
    rw [← hn] at c0 ho
    rw [q]
    clear h hp ht hn hc1 hc2 c1 c2 c3 c4 q
    by_cases q1 : t < 0
    · have d1 : decide (t < 0) = true := by simpa using q1
      clear ho q1
      go_enter Tryz.func106, Tryz.ntmps106
      go_wp2_with fail
      go_ret
      exact ⟨rfl, rfl⟩
    · have d1 : decide (t < 0) = false := by simpa using q1
      have d2 : decide ((n : Int) ≤ t) = true := by simp; omega
      clear ho q1
      go_enter Tryz.func106, Tryz.ntmps106
      go_wp2_with fail
      go_ret
      exact ⟨rfl, rfl⟩
  · have hk := asked_cases hp t
    have d1 : decide (t < 0) = false := by simp; omega
    have d2 : decide ((n : Int) ≤ t) = false := by simp; omega
    rcases hk with ⟨_, q2⟩ | ⟨i, rfl, hi, q1, q2, q3⟩ | ⟨i, rfl, hi, q1, q2, q3⟩
    · exfalso
      unfold asked at q2
      rw [if_neg ho] at q2
      split at q2 <;> cases q2
    all_goals
      have cj := h.jcell hi
      rw [q2] at cj
      rw [q3]
      rw [← hn] at c0 c4 hi ho
      clear h hp ht hn hc1 hc2 c1 c2 c3 q1 q2 q3
      generalize m.jv = jv at *
      go_enter Tryz.func106, Tryz.ntmps106
      go_wp2_with fail
      go_ret
      exact ⟨rfl, rfl⟩
theorem dead_any (h : PRM m w rb s) (hp : Jp m s) (hi : Rinv s) (t : Int) : Calls Tryz.prog 60 #[.pointer (some ⟨rb, 0, none⟩), .int .i64 t] w (VB (deadV s t) w) := by
  have HA := Lib.hid (asked_any h hp t)
  by_cases ha : asked s t ≠ 0
  · have e1 : deadV s t = .tuple #[.int .i64 0, .bool false] := if_neg ha
    rw [e1]
    have hx : (asked s t != 0) = true := by simpa using ha
    generalize asked s t = x at *
    clear h hp hi ha e1
    go_enter Tryz.func60, Tryz.ntmps60
    go_wp2_with fail
    refine HA.out.mono ?_
    rintro e w1 ⟨rfl, rfl⟩
    go_wp2_with fail
    go_ret2
    exact ⟨rfl, Below.refl _ _⟩
  · have ha : asked s t = 0 := Decidable.not_not.1 ha
    rw [ha] at HA
    have e1 : deadV s t = .tuple #[.int .i64 (s.dl t), .bool true] := if_pos ha
    rw [e1]
    obtain ⟨i, rfl, hin, hpi, hjp, hsj⟩ := asked_p hp ha
    obtain ⟨c0, c1, c2, c3, c4⟩ := h.cells
    obtain ⟨cj, d9, d11, d14⟩ := h.jf hin hpi
    rw [(hi.jt i hin (asked_in ha).2.2).2.1] at d9
    clear h hp hi ha e1 c0 c1 c2 c3 d11 d14 hjp hsj hpi
    generalize s.n = n at *
    generalize s.dl i = x at *
    generalize m.jv = jv at *
    generalize m.ja i = jb at *
    go_enter Tryz.func60, Tryz.ntmps60
    go_wp2_with fail
    refine HA.out.mono ?_
    rintro e w1 ⟨rfl, rfl⟩
    go_wp2_with fail
    go_ret2
    exact ⟨rfl, Below.refl _ _⟩
theorem fault_any (h : PRM m w rb s) (hp : Jp m s) (hi : Rinv s) (t now : Int) : Calls Tryz.prog 61 #[.pointer (some ⟨rb, 0, none⟩), .int .i64 t, .int .i64 now] w (VB (.int .i64 (fauR s t now)) w) := by
  have HA := Lib.hid (asked_any h hp t)
  by_cases ha : asked s t ≠ 0
  · have e1 : fauR s t now = 0 := if_neg ha
    rw [e1]
    have hx : (asked s t != 0) = true := by simpa using ha
    generalize asked s t = x at *
    clear h hp hi ha e1
    go_enter Tryz.func61, Tryz.ntmps61
    go_wp2_with fail
    refine HA.out.mono ?_
    rintro e w1 ⟨rfl, rfl⟩
    go_wp2_with fail
    go_ret
    exact ⟨rfl, Below.refl _ _⟩
  · have ha : asked s t = 0 := Decidable.not_not.1 ha
    rw [ha] at HA
    have e1 : fauR s t now = fau (s.j t) now := if_pos ha
    rw [e1]
    obtain ⟨i, rfl, hin, hpi, hjp, hsj⟩ := asked_p hp ha
    have HI := (hi.jt i hin (asked_in ha).2.2).2.2
    rw [hsj]
    have HJ := Lib.hid (rjfault_any (h.jb i hin hpi) HI now)
    obtain ⟨c0, c1, c2, c3, c4⟩ := h.cells
    obtain ⟨cj, d9, d11, d14⟩ := h.jf hin hpi
    clear h hp hi ha e1 c0 c1 c2 c3 d9 d11 d14 hjp hsj hpi HI
    generalize fau (s.J i) now = x at *
    generalize s.n = n at *
    generalize m.jv = jv at *
    generalize m.ja i = jb at *
    go_enter Tryz.func61, Tryz.ntmps61
    go_wp2_with fail
    refine HA.out.mono ?_
    rintro e w1 ⟨rfl, rfl⟩
    go_wp2_with fail
    refine HJ.out.mono ?_
    rintro e w2 ⟨rfl, hb⟩
    have HB := Lib.hid hb
    clear hb
    go_wp2_with fail
    go_ret
    exact ⟨rfl, HB.out⟩
theorem held_any (h : PRM m w rb s) (hp : Jp m s) (hi : Rinv s) (t : Int) : Calls Tryz.prog 63 #[.pointer (some ⟨rb, 0, none⟩), .int .i64 t] w (NumP w (heldV s t)) := by
  have HA := Lib.hid (asked_any h hp t)
  by_cases ha : asked s t ≠ 0
  · have e1 : heldV s t = [] := if_neg ha
    rw [e1]
    have hx : (asked s t != 0) = true := by simpa using ha
    generalize asked s t = x at *
    clear h hp hi ha e1
    go_enter Tryz.func63, Tryz.ntmps63
    go_wp2_with fail
    refine HA.out.mono ?_
    rintro e w1 ⟨rfl, rfl⟩
    go_wp2_with fail
    go_ret
    exact ⟨_, rfl, St.NR.nil w w.heap.size, Below.refl _ _⟩
  · have ha : asked s t = 0 := Decidable.not_not.1 ha
    rw [ha] at HA
    have e1 : heldV s t = St.Sk.held s.E t := if_pos ha
    rw [e1]
    have hlen := hi.ok.len
    have HH := Lib.hid (St.rheld_any h.so.rs (show s.E.length ≤ 1000 by omega) t)
    clear hlen
    obtain ⟨c0, c1, c2, c3, c4⟩ := h.cells
    clear h hp hi ha e1 c0 c1 c2 c4
    generalize St.Sk.held s.E t = l at *
    generalize m.sb = sb at *
    go_enter Tryz.func63, Tryz.ntmps63
    go_wp2_with fail
    refine HA.out.mono ?_
    rintro e w1 ⟨rfl, rfl⟩
    go_wp2_with fail
    refine HH.out.mono ?_
    rintro e w2 ⟨r, rfl, hnr, hb⟩
    have HN := Lib.hid hnr
    have HB := Lib.hid hb
    clear hnr hb HH
    go_wp2_with fail
    go_ret
    exact ⟨_, rfl, HN.out, HB.out⟩
theorem ear_any (h : PRM m w rb s) (hp : Jp m s) (hi : Rinv s) (t : Int) : Calls Tryz.prog 62 #[.pointer (some ⟨rb, 0, none⟩), .int .i64 t] w (VB (.int .i64 (earV s t)) w) := by
  obtain ⟨c0, c1, c2, c3, c4⟩ := h.cells
  obtain ⟨a, cap, ht, hc1, hc2⟩ := h.tk.slice
  rw [ht] at c0
  by_cases ho : t < 0 ∨ (s.n : Int) ≤ t
  · have q : earV s t = 0 := if_pos ho
    rw [q]
    clear h hp ht hc1 hc2 c1 c2 c3 c4 q hi
    generalize s.n = n at *
    by_cases q1 : t < 0
    · have d1 : decide (t < 0) = true := by simpa using q1
      clear ho q1
      go_enter Tryz.func62, Tryz.ntmps62
      go_wp2_with fail
      go_ret
      exact ⟨rfl, Below.refl _ _⟩
    · have d1 : decide (t < 0) = false := by simpa using q1
      have d2 : decide ((n : Int) ≤ t) = true := by simp; omega
      clear ho q1
      go_enter Tryz.func62, Tryz.ntmps62
      go_wp2_with fail
      go_ret
      exact ⟨rfl, Below.refl _ _⟩
  · have q : earV s t = s.G t.toNat := if_neg ho
    obtain ⟨i, rfl⟩ : ∃ i : Nat, t = i := ⟨t.toNat, by omega⟩
    have d1 : decide ((i : Int) < 0) = false := decide_eq_false (by omega)
    have d2 : decide ((s.n : Int) ≤ (i : Int)) = false := by simp; omega
    have hin : i < s.n := by omega
    rw [q, show ((i : Int)).toNat = i by omega]
    have HG := Lib.hid (Sg.rnext_any (h.gd i hin))
    have cg := h.gs i hin
    obtain ⟨gc, hgv⟩ := h.gf (by omega)
    rw [hgv] at c1
    clear h hp hi ht hc1 hc2 c2 c3 c4 q hgv ho
    generalize s.G i = x at *
    generalize s.n = n at *
    generalize m.ga i = gb0 at *
    generalize m.gb = gb at *
    go_enter Tryz.func62, Tryz.ntmps62
    go_wp2_with fail
    refine HG.out.mono ?_
    rintro e w1 ⟨rfl, rfl⟩
    go_wp2_with fail
    go_ret
    exact ⟨rfl, Below.refl _ _⟩
end
end Go.Proofs.YtkkmfpllgjoceaaGreat.Ro.Dr
