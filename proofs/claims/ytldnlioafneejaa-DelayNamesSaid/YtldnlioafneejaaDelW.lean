/- DelayNames, walked. -/
import Derived.Test.YtldnlioafneejaaDelV
namespace Go.Proofs.Ytldnlioafneejaa
open Go.RowKit Tk De Dl
set_option linter.unusedVariables false
theorem NB.tc {w W : World} (h : NB w W) : W.cell? ⟨w.heap.size, 0, none⟩ = some (.int .i64 64) ∧ W.cell? ⟨w.heap.size, 1, none⟩ = some (.int .i64 64) ∧ W.cell? ⟨w.heap.size, 2, none⟩ = some (.int .i64 64) ∧ W.cell? ⟨w.heap.size, 3, none⟩ = some (.int .i64 0) ∧ W.cell? ⟨w.heap.size, 4, none⟩ = some (.int .i64 64) ∧ W.cell? ⟨w.heap.size, 5, none⟩ = some (.int .i64 4) ∧ W.cell? ⟨w.heap.size, 6, none⟩ = some (.int .i64 32) ∧ W.cell? ⟨w.heap.size, 7, none⟩ = some (.int .i64 2) :=
  ⟨cell_of_row _ _ 0 _ _ _ h.kt, cell_of_row _ _ 1 _ _ _ h.kt, cell_of_row _ _ 2 _ _ _ h.kt, cell_of_row _ _ 3 _ _ _ h.kt, cell_of_row _ _ 4 _ _ _ h.kt, cell_of_row _ _ 5 _ _ _ h.kt, cell_of_row _ _ 6 _ _ _ h.kt, cell_of_row _ _ 7 _ _ _ h.kt⟩
/-- in a round: the box of the changed one, the row of its one task -/
structure CF (w wr : World) (per bud : Int) (t : List Int) (W : World) : Prop where
  nb : NB w W
  pk : W.heap[wr.heap.size]? = some (.cells #[.int .i64 per, .int .i64 bud, .slice (some ⟨wr.heap.size + 1 + 1, 0, none⟩) 1 1] 35 (0, 0))
  tk : TK W (.slice (some ⟨wr.heap.size + 1 + 1, 0, none⟩) 1 1) 1 (lz [t])
theorem CF.below {w wr : World} {per bud : Int} {t : List Int} {W W' : World} (h : CF w wr per bud t W) (q : Below W.heap.size W W') : CF w wr per bud t W' :=
  ⟨h.nb.below q, (q.block _ (lt_of_block h.pk)).trans h.pk, h.tk.below q⟩
theorem CF.go {w wr : World} {per bud : Int} {t : List Int} {W W' : World} {o : Obj} (h : CF w wr per bud t W) (q : Below (W.alloc o).heap.size (W.alloc o) W') : CF w wr per bud t W' :=
  (h.below ((Below.refl _ _).alloc (Nat.le_refl _) o)).below q
theorem CF.c {w wr : World} {per bud : Int} {t : List Int} {W : World} (h : CF w wr per bud t W) : W.cell? ⟨wr.heap.size, 0, none⟩ = some (.int .i64 per) ∧ W.cell? ⟨wr.heap.size, 1, none⟩ = some (.int .i64 bud) ∧ W.cell? ⟨wr.heap.size, 2, none⟩ = some (.slice (some ⟨wr.heap.size + 1 + 1, 0, none⟩) 1 1) :=
  ⟨cell_of_row _ _ 0 _ _ _ h.pk, cell_of_row _ _ 1 _ _ _ h.pk, cell_of_row _ _ 2 _ _ _ h.pk⟩
theorem CF.ps {w wr : World} {per bud : Int} {t : List Int} {W : World} (h : CF w wr per bud t W) {g : Nat} (hg : g = W.heap.size) :
    PS (W.alloc (.cells #[.int .i64 per, .int .i64 bud, .slice (some ⟨wr.heap.size + 1 + 1, 0, none⟩) 1 1] 35)) (.slice (some ⟨g, 0, none⟩) 1 1) [⟨per, bud, 1, lz [t]⟩] := by
  subst hg
  exact part_lit (q := ⟨per, bud, 1, lz [t]⟩) W h.tk (by show 1 ≤ 2199023255552; decide)
theorem case_facts {w wr : World} (N : NB w wr) (per bud : Int) (t : List Int) (ht : t.length = 8) : CF w wr per bud t (((wr.alloc (.cells #[.int .i64 per, .int .i64 bud, .slice (some ⟨wr.heap.size + 1 + 1, 0, none⟩) 1 1] 35)).alloc (.cells (t.map (Value.int .i64)).toArray 39)).alloc (.cells (t.map (Value.int .i64)).toArray 39)) := by
  refine ⟨?_, ?_, case_tk wr _ _ t ht⟩
  · exact N.below ((((Below.refl _ _).alloc (Nat.le_refl _) _).alloc (by simp) _).alloc (by simp; omega) _)
  · have hk := heap_alloc_new wr (.cells #[.int .i64 per, .int .i64 bud, .slice (some ⟨wr.heap.size + 1 + 1, 0, none⟩) 1 1] 35)
    rw [Below.heap_alloc _ _ _ (by rw [World.size_alloc]; exact Nat.lt_succ_of_lt (lt_of_block hk)), Below.heap_alloc _ _ _ (lt_of_block hk), hk]
set_option maxRecDepth 100000 in
set_option maxHeartbeats 8000000 in
theorem names_law (w : World) : Calls Try.prog 7 #[] w (TrueB w) := by
  have HW := Lib.hid (works_any)
  have mixed : Try.prog.follows .mixedOrders = true := by kernel_rfl
  go_enter Try.func7, Try.ntmps7
  go_wp2_with fail
  have hS := names_start w _ rfl
  generalize ((w.alloc (.cells #[.int .i64 64, .int .i64 64, .int .i64 64, .int .i64 0, .int .i64 64, .int .i64 4, .int .i64 32, .int .i64 2] 39)).alloc (.cells #[.int .i64 64, .int .i64 64, .slice (some ⟨w.heap.size, 0, none⟩) 1 1] 35)).alloc (.cells #[.int .i64 64, .int .i64 64, .slice (some ⟨w.heap.size, 0, none⟩) 1 1, .int .i64 64, .int .i64 64, .slice (some ⟨w.heap.size, 0, none⟩) 1 1, .int .i64 64, .int .i64 64, .slice (some ⟨w.heap.size, 0, none⟩) 1 1, .int .i64 64, .int .i64 64, .slice (some ⟨w.heap.size, 0, none⟩) 1 1] 35) = v0 at *
  have S := Lib.hid hS
  clear hS
  have C := Lib.hid (Wait_fit kn1 S.out.ps)
  refine C.out.mono ?_
  rintro e v1 ⟨rfl, hb⟩
  have S2 := Lib.hid (S.out.below hb)
  clear C S hb
  have S := S2
  clear S2
  go_wp2_with fail
  have C := Lib.hid (Of_fit kn2 S.out.ps)
  refine C.out.mono ?_
  rintro e v2 ⟨rfl, hb⟩
  have S2 := Lib.hid (S.out.below hb)
  clear C S hb
  have S := S2
  clear S2
  go_wp2_with fail
  have C := Lib.hid (Wait_fit kn3 S.out.ps)
  refine C.out.mono ?_
  rintro e v3 ⟨rfl, hb⟩
  have S2 := Lib.hid (S.out.below hb)
  clear C S hb
  have S := S2
  clear S2
  go_wp2_with fail
  have C := Lib.hid (Wait_fit kn4 S.out.ps)
  refine C.out.mono ?_
  rintro e v4 ⟨rfl, hb⟩
  have S2 := Lib.hid (S.out.below hb)
  clear C S hb
  have S := S2
  clear S2
  go_wp2_with fail
  have C := Lib.hid (More_fit kn5 S.out.ps)
  refine C.out.mono ?_
  rintro e v5 ⟨u5, rfl, hI, hb⟩
  obtain ⟨a5, c5, rfl, _, _⟩ := hI.slice
  clear hI
  have S2 := Lib.hid (S.out.below hb)
  clear C S hb
  have S := S2
  clear S2
  go_wp2_with fail
  have C := Lib.hid (Of_fit kn6 S.out.ps)
  refine C.out.mono ?_
  rintro e v6 ⟨rfl, hb⟩
  have S2 := Lib.hid (S.out.below hb)
  clear C S hb
  have S := S2
  clear S2
  go_wp2_with fail
  have C := Lib.hid (Of_fit kn7 S.out.ps)
  refine C.out.mono ?_
  rintro e v7 ⟨rfl, hb⟩
  have S2 := Lib.hid (S.out.below hb)
  clear C S hb
  have S := S2
  clear S2
  go_wp2_with fail
  have C := Lib.hid (checkp_fit kn8 S.out.ps)
  refine C.out.mono ?_
  rintro e v8 ⟨rfl, hb⟩
  have S2 := Lib.hid (S.out.below hb)
  clear C S hb
  have S := S2
  clear S2
  go_wp2_with fail
  have C := Lib.hid (checkp_fit kn9 (PS.nil v8))
  refine C.out.mono ?_
  rintro e v9 ⟨rfl, hb⟩
  have S2 := Lib.hid (S.out.below hb)
  clear C S hb
  have S := S2
  clear S2
  obtain ⟨c0, c1, c2⟩ := S.out.toNB.c
  obtain ⟨u10, w10, hr, hq, hn, a6, c6, e6⟩ := five_facts S.out 22
  subst e6
  have HRUN := Lib.hid hr; have Q5 := Lib.hid hq; have HN := Lib.hid hn
  clear hr hq hn S
  go_wp2_with (at_builtin; refine wpList_append_on (by rfl) (.tmp 74) (.tmp 76) 22 22 rfl _ _ _ _ rfl rfl HRUN.out ?_)
  have C := Lib.hid (checkp_fit kn10 Q5.out)
  refine C.out.mono ?_
  rintro e v11 ⟨rfl, hb⟩
  have S := Lib.hid (HN.out.below hb)
  clear C HRUN HN Q5 hb c0 c1 c2
  go_wp2_with fail
  clear mixed
  go_loopw [18] (fun i wr => ∃ k : Int, 0 ≤ k ∧ k ≤ 14 ∧ i = .int .i64 k ∧ Hid (NB w wr)) (fun i _ => 14 - (intOf i).toNat)
  case atStart => exact ⟨0, by omega, by omega, rfl, S⟩
  case round =>
    clear S
    obtain ⟨k, hk0, hk, rfl, N⟩ := hrel
    by_cases h14 : k < 14
    · obtain ⟨c0, c1, c2⟩ := N.out.c
      have NP := N.out.below ((Below.refl wr.heap.size wr).alloc (Nat.le_refl _) (.cells #[.int .i64 64, .int .i64 64, .slice (some ⟨w.heap.size, 0, none⟩) 1 1] 35))
      have d2 := NP.c.2.2
      obtain ⟨t0, t1, t2, t3, t4, t5, t6, t7⟩ := NP.tc
      clear NP
      by_cases hk0 : k = 0
      · subst hk0
        · skip
          go_wp2_with fail
          have hf := case_facts N.out 65 64 [64, 64, 64, 0, 64, 4, 32, 2] rfl
          simp only [List.map_cons, List.map_nil] at hf
          have F := Lib.hid hf
          clear hf c0 c1 c2 d2 t0 t1 t2 t3 t4 t5 t6 t7 N
          have C := Lib.hid (More_fit (q := 0) (xs := []) (e := 2) (by decide +kernel) (F.out.ps (g := wr.heap.size + 1 + 1 + 1) (by simp [World.size_alloc])))
          refine C.out.mono ?_
          rintro e wm ⟨um, rfl, hI, hb⟩
          obtain ⟨am, cm, rfl, _, _⟩ := hI.slice
          have FM := Lib.hid (F.out.go hb)
          clear C F hb hI
          obtain ⟨c0, c1, c2⟩ := FM.out.c
          go_wp2_with fail
          have C := Lib.hid (checkp_fit (E := 2) (by decide +kernel) (FM.out.ps rfl))
          refine C.out.mono ?_
          rintro e wn ⟨rfl, hb⟩
          have FN := Lib.hid (FM.out.go hb).nb
          clear C FM hb c0 c1 c2
          go_wp2_with fail
          go_roundw
          case rel => exact ⟨1, by omega, by omega, by go_num, FN.out⟩
          case measure => simp [intOf]
      by_cases hk1 : k = 1
      · subst hk1
        · skip
          go_wp2_with fail
          have hf := case_facts N.out 64 65 [64, 64, 64, 0, 64, 4, 32, 2] rfl
          simp only [List.map_cons, List.map_nil] at hf
          have F := Lib.hid hf
          clear hf c0 c1 c2 d2 t0 t1 t2 t3 t4 t5 t6 t7 N
          have C := Lib.hid (More_fit (q := 0) (xs := []) (e := 2) (by decide +kernel) (F.out.ps (g := wr.heap.size + 1 + 1 + 1) (by simp [World.size_alloc])))
          refine C.out.mono ?_
          rintro e wm ⟨um, rfl, hI, hb⟩
          obtain ⟨am, cm, rfl, _, _⟩ := hI.slice
          have FM := Lib.hid (F.out.go hb)
          clear C F hb hI
          obtain ⟨c0, c1, c2⟩ := FM.out.c
          go_wp2_with fail
          have C := Lib.hid (checkp_fit (E := 2) (by decide +kernel) (FM.out.ps rfl))
          refine C.out.mono ?_
          rintro e wn ⟨rfl, hb⟩
          have FN := Lib.hid (FM.out.go hb).nb
          clear C FM hb c0 c1 c2
          go_wp2_with fail
          go_roundw
          case rel => exact ⟨2, by omega, by omega, by go_num, FN.out⟩
          case measure => simp [intOf]
      by_cases hk2 : k = 2
      · subst hk2
        · skip
          go_wp2_with fail
          have hf := case_facts N.out 64 0 [64, 64, 64, 0, 64, 4, 32, 2] rfl
          simp only [List.map_cons, List.map_nil] at hf
          have F := Lib.hid hf
          clear hf c0 c1 c2 d2 t0 t1 t2 t3 t4 t5 t6 t7 N
          have C := Lib.hid (More_fit (q := 0) (xs := []) (e := 2) (by decide +kernel) (F.out.ps (g := wr.heap.size + 1 + 1 + 1) (by simp [World.size_alloc])))
          refine C.out.mono ?_
          rintro e wm ⟨um, rfl, hI, hb⟩
          obtain ⟨am, cm, rfl, _, _⟩ := hI.slice
          have FM := Lib.hid (F.out.go hb)
          clear C F hb hI
          obtain ⟨c0, c1, c2⟩ := FM.out.c
          go_wp2_with fail
          have C := Lib.hid (checkp_fit (E := 2) (by decide +kernel) (FM.out.ps rfl))
          refine C.out.mono ?_
          rintro e wn ⟨rfl, hb⟩
          have FN := Lib.hid (FM.out.go hb).nb
          clear C FM hb c0 c1 c2
          go_wp2_with fail
          go_roundw
          case rel => exact ⟨3, by omega, by omega, by go_num, FN.out⟩
          case measure => simp [intOf]
      by_cases hk3 : k = 3
      · subst hk3
        · skip
          go_wp2_with fail
          have hf := case_facts N.out 64 64 [64, 64, 65, 0, 64, 4, 32, 2] rfl
          simp only [List.map_cons, List.map_nil] at hf
          have F := Lib.hid hf
          clear hf c0 c1 c2 d2 t0 t1 t2 t3 t4 t5 t6 t7 N
          have C := Lib.hid (More_fit (q := 0) (xs := []) (e := 2) (by decide +kernel) (F.out.ps (g := wr.heap.size + 1 + 1 + 1) (by simp [World.size_alloc])))
          refine C.out.mono ?_
          rintro e wm ⟨um, rfl, hI, hb⟩
          obtain ⟨am, cm, rfl, _, _⟩ := hI.slice
          have FM := Lib.hid (F.out.go hb)
          clear C F hb hI
          obtain ⟨c0, c1, c2⟩ := FM.out.c
          go_wp2_with fail
          have C := Lib.hid (checkp_fit (E := 2) (by decide +kernel) (FM.out.ps rfl))
          refine C.out.mono ?_
          rintro e wn ⟨rfl, hb⟩
          have FN := Lib.hid (FM.out.go hb).nb
          clear C FM hb c0 c1 c2
          go_wp2_with fail
          go_roundw
          case rel => exact ⟨4, by omega, by omega, by go_num, FN.out⟩
          case measure => simp [intOf]
      by_cases hk4 : k = 4
      · subst hk4
        · skip
          go_wp2_with fail
          have hf := case_facts N.out 64 64 [64, 64, 64, 0, 65, 4, 32, 2] rfl
          simp only [List.map_cons, List.map_nil] at hf
          have F := Lib.hid hf
          clear hf c0 c1 c2 d2 t0 t1 t2 t3 t4 t5 t6 t7 N
          have C := Lib.hid (More_fit (q := 0) (xs := []) (e := 2) (by decide +kernel) (F.out.ps (g := wr.heap.size + 1 + 1 + 1) (by simp [World.size_alloc])))
          refine C.out.mono ?_
          rintro e wm ⟨um, rfl, hI, hb⟩
          obtain ⟨am, cm, rfl, _, _⟩ := hI.slice
          have FM := Lib.hid (F.out.go hb)
          clear C F hb hI
          obtain ⟨c0, c1, c2⟩ := FM.out.c
          go_wp2_with fail
          have C := Lib.hid (checkp_fit (E := 2) (by decide +kernel) (FM.out.ps rfl))
          refine C.out.mono ?_
          rintro e wn ⟨rfl, hb⟩
          have FN := Lib.hid (FM.out.go hb).nb
          clear C FM hb c0 c1 c2
          go_wp2_with fail
          go_roundw
          case rel => exact ⟨5, by omega, by omega, by go_num, FN.out⟩
          case measure => simp [intOf]
      by_cases hk5 : k = 5
      · subst hk5
        · skip
          go_wp2_with fail
          have hf := case_facts N.out 64 64 [64, 64, 64, 0, (-1), 4, 32, 2] rfl
          simp only [List.map_cons, List.map_nil] at hf
          have F := Lib.hid hf
          clear hf c0 c1 c2 d2 t0 t1 t2 t3 t4 t5 t6 t7 N
          have C := Lib.hid (More_fit (q := 0) (xs := []) (e := 2) (by decide +kernel) (F.out.ps (g := wr.heap.size + 1 + 1 + 1) (by simp [World.size_alloc])))
          refine C.out.mono ?_
          rintro e wm ⟨um, rfl, hI, hb⟩
          obtain ⟨am, cm, rfl, _, _⟩ := hI.slice
          have FM := Lib.hid (F.out.go hb)
          clear C F hb hI
          obtain ⟨c0, c1, c2⟩ := FM.out.c
          go_wp2_with fail
          have C := Lib.hid (checkp_fit (E := 2) (by decide +kernel) (FM.out.ps rfl))
          refine C.out.mono ?_
          rintro e wn ⟨rfl, hb⟩
          have FN := Lib.hid (FM.out.go hb).nb
          clear C FM hb c0 c1 c2
          go_wp2_with fail
          go_roundw
          case rel => exact ⟨6, by omega, by omega, by go_num, FN.out⟩
          case measure => simp [intOf]
      by_cases hk6 : k = 6
      · subst hk6
        · skip
          go_wp2_with fail
          have hf := case_facts N.out 64 64 [64, 64, 64, 0, 64, 5, 32, 2] rfl
          simp only [List.map_cons, List.map_nil] at hf
          have F := Lib.hid hf
          clear hf c0 c1 c2 d2 t0 t1 t2 t3 t4 t5 t6 t7 N
          have C := Lib.hid (More_fit (q := 0) (xs := []) (e := 2) (by decide +kernel) (F.out.ps (g := wr.heap.size + 1 + 1 + 1) (by simp [World.size_alloc])))
          refine C.out.mono ?_
          rintro e wm ⟨um, rfl, hI, hb⟩
          obtain ⟨am, cm, rfl, _, _⟩ := hI.slice
          have FM := Lib.hid (F.out.go hb)
          clear C F hb hI
          obtain ⟨c0, c1, c2⟩ := FM.out.c
          go_wp2_with fail
          have C := Lib.hid (checkp_fit (E := 2) (by decide +kernel) (FM.out.ps rfl))
          refine C.out.mono ?_
          rintro e wn ⟨rfl, hb⟩
          have FN := Lib.hid (FM.out.go hb).nb
          clear C FM hb c0 c1 c2
          go_wp2_with fail
          go_roundw
          case rel => exact ⟨7, by omega, by omega, by go_num, FN.out⟩
          case measure => simp [intOf]
      by_cases hk7 : k = 7
      · subst hk7
        · skip
          go_wp2_with fail
          have hf := case_facts N.out 64 64 [64, 64, 64, 0, 64, (-1), 32, 2] rfl
          simp only [List.map_cons, List.map_nil] at hf
          have F := Lib.hid hf
          clear hf c0 c1 c2 d2 t0 t1 t2 t3 t4 t5 t6 t7 N
          have C := Lib.hid (More_fit (q := 0) (xs := []) (e := 2) (by decide +kernel) (F.out.ps (g := wr.heap.size + 1 + 1 + 1) (by simp [World.size_alloc])))
          refine C.out.mono ?_
          rintro e wm ⟨um, rfl, hI, hb⟩
          obtain ⟨am, cm, rfl, _, _⟩ := hI.slice
          have FM := Lib.hid (F.out.go hb)
          clear C F hb hI
          obtain ⟨c0, c1, c2⟩ := FM.out.c
          go_wp2_with fail
          have C := Lib.hid (checkp_fit (E := 2) (by decide +kernel) (FM.out.ps rfl))
          refine C.out.mono ?_
          rintro e wn ⟨rfl, hb⟩
          have FN := Lib.hid (FM.out.go hb).nb
          clear C FM hb c0 c1 c2
          go_wp2_with fail
          go_roundw
          case rel => exact ⟨8, by omega, by omega, by go_num, FN.out⟩
          case measure => simp [intOf]
      by_cases hk8 : k = 8
      · subst hk8
        · skip
          go_wp2_with fail
          have hf := case_facts N.out 64 64 [64, 64, 64, 0, 64, 0, 32, 2] rfl
          simp only [List.map_cons, List.map_nil] at hf
          have F := Lib.hid hf
          clear hf c0 c1 c2 d2 t0 t1 t2 t3 t4 t5 t6 t7 N
          have C := Lib.hid (More_fit (q := 0) (xs := []) (e := 2) (by decide +kernel) (F.out.ps (g := wr.heap.size + 1 + 1 + 1) (by simp [World.size_alloc])))
          refine C.out.mono ?_
          rintro e wm ⟨um, rfl, hI, hb⟩
          obtain ⟨am, cm, rfl, _, _⟩ := hI.slice
          have FM := Lib.hid (F.out.go hb)
          clear C F hb hI
          obtain ⟨c0, c1, c2⟩ := FM.out.c
          go_wp2_with fail
          have C := Lib.hid (checkp_fit (E := 2) (by decide +kernel) (FM.out.ps rfl))
          refine C.out.mono ?_
          rintro e wn ⟨rfl, hb⟩
          have FN := Lib.hid (FM.out.go hb).nb
          clear C FM hb c0 c1 c2
          go_wp2_with fail
          go_roundw
          case rel => exact ⟨9, by omega, by omega, by go_num, FN.out⟩
          case measure => simp [intOf]
      by_cases hk9 : k = 9
      · subst hk9
        · skip
          go_wp2_with fail
          have hf := case_facts N.out 64 64 [64, 64, 64, 0, 64, 4, 33, 2] rfl
          simp only [List.map_cons, List.map_nil] at hf
          have F := Lib.hid hf
          clear hf c0 c1 c2 d2 t0 t1 t2 t3 t4 t5 t6 t7 N
          have C := Lib.hid (More_fit (q := 0) (xs := []) (e := 2) (by decide +kernel) (F.out.ps (g := wr.heap.size + 1 + 1 + 1) (by simp [World.size_alloc])))
          refine C.out.mono ?_
          rintro e wm ⟨um, rfl, hI, hb⟩
          obtain ⟨am, cm, rfl, _, _⟩ := hI.slice
          have FM := Lib.hid (F.out.go hb)
          clear C F hb hI
          obtain ⟨c0, c1, c2⟩ := FM.out.c
          go_wp2_with fail
          have C := Lib.hid (checkp_fit (E := 2) (by decide +kernel) (FM.out.ps rfl))
          refine C.out.mono ?_
          rintro e wn ⟨rfl, hb⟩
          have FN := Lib.hid (FM.out.go hb).nb
          clear C FM hb c0 c1 c2
          go_wp2_with fail
          go_roundw
          case rel => exact ⟨10, by omega, by omega, by go_num, FN.out⟩
          case measure => simp [intOf]
      by_cases hk10 : k = 10
      · subst hk10
        · skip
          go_wp2_with fail
          have hf := case_facts N.out 64 64 [64, 64, 64, 0, 64, 4, 0, 2] rfl
          simp only [List.map_cons, List.map_nil] at hf
          have F := Lib.hid hf
          clear hf c0 c1 c2 d2 t0 t1 t2 t3 t4 t5 t6 t7 N
          have C := Lib.hid (More_fit (q := 0) (xs := []) (e := 2) (by decide +kernel) (F.out.ps (g := wr.heap.size + 1 + 1 + 1) (by simp [World.size_alloc])))
          refine C.out.mono ?_
          rintro e wm ⟨um, rfl, hI, hb⟩
          obtain ⟨am, cm, rfl, _, _⟩ := hI.slice
          have FM := Lib.hid (F.out.go hb)
          clear C F hb hI
          obtain ⟨c0, c1, c2⟩ := FM.out.c
          go_wp2_with fail
          have C := Lib.hid (checkp_fit (E := 2) (by decide +kernel) (FM.out.ps rfl))
          refine C.out.mono ?_
          rintro e wn ⟨rfl, hb⟩
          have FN := Lib.hid (FM.out.go hb).nb
          clear C FM hb c0 c1 c2
          go_wp2_with fail
          go_roundw
          case rel => exact ⟨11, by omega, by omega, by go_num, FN.out⟩
          case measure => simp [intOf]
      by_cases hk11 : k = 11
      · subst hk11
        · skip
          go_wp2_with fail
          have hf := case_facts N.out 64 64 [64, 64, 64, 0, 64, 4, 32, 0] rfl
          simp only [List.map_cons, List.map_nil] at hf
          have F := Lib.hid hf
          clear hf c0 c1 c2 d2 t0 t1 t2 t3 t4 t5 t6 t7 N
          have C := Lib.hid (More_fit (q := 0) (xs := []) (e := 2) (by decide +kernel) (F.out.ps (g := wr.heap.size + 1 + 1 + 1) (by simp [World.size_alloc])))
          refine C.out.mono ?_
          rintro e wm ⟨um, rfl, hI, hb⟩
          obtain ⟨am, cm, rfl, _, _⟩ := hI.slice
          have FM := Lib.hid (F.out.go hb)
          clear C F hb hI
          obtain ⟨c0, c1, c2⟩ := FM.out.c
          go_wp2_with fail
          have C := Lib.hid (checkp_fit (E := 2) (by decide +kernel) (FM.out.ps rfl))
          refine C.out.mono ?_
          rintro e wn ⟨rfl, hb⟩
          have FN := Lib.hid (FM.out.go hb).nb
          clear C FM hb c0 c1 c2
          go_wp2_with fail
          go_roundw
          case rel => exact ⟨12, by omega, by omega, by go_num, FN.out⟩
          case measure => simp [intOf]
      by_cases hk12 : k = 12
      · subst hk12
        · skip
          go_wp2_with fail
          have hf := case_facts N.out 64 64 [64, 64, 64, 0, 64, 4, 32, 4611686018427387904] rfl
          simp only [List.map_cons, List.map_nil] at hf
          have F := Lib.hid hf
          clear hf c0 c1 c2 d2 t0 t1 t2 t3 t4 t5 t6 t7 N
          have C := Lib.hid (More_fit (q := 0) (xs := []) (e := 2) (by decide +kernel) (F.out.ps (g := wr.heap.size + 1 + 1 + 1) (by simp [World.size_alloc])))
          refine C.out.mono ?_
          rintro e wm ⟨um, rfl, hI, hb⟩
          obtain ⟨am, cm, rfl, _, _⟩ := hI.slice
          have FM := Lib.hid (F.out.go hb)
          clear C F hb hI
          obtain ⟨c0, c1, c2⟩ := FM.out.c
          go_wp2_with fail
          have C := Lib.hid (checkp_fit (E := 2) (by decide +kernel) (FM.out.ps rfl))
          refine C.out.mono ?_
          rintro e wn ⟨rfl, hb⟩
          have FN := Lib.hid (FM.out.go hb).nb
          clear C FM hb c0 c1 c2
          go_wp2_with fail
          go_roundw
          case rel => exact ⟨13, by omega, by omega, by go_num, FN.out⟩
          case measure => simp [intOf]
      by_cases hk13 : k = 13
      · subst hk13
        · skip
          go_wp2_with fail
          have hf := case_facts N.out 64 31 [64, 64, 64, 0, 64, 4, 32, 2] rfl
          simp only [List.map_cons, List.map_nil] at hf
          have F := Lib.hid hf
          clear hf c0 c1 c2 d2 t0 t1 t2 t3 t4 t5 t6 t7 N
          have C := Lib.hid (More_fit (q := 0) (xs := []) (e := 2) (by decide +kernel) (F.out.ps (g := wr.heap.size + 1 + 1 + 1) (by simp [World.size_alloc])))
          refine C.out.mono ?_
          rintro e wm ⟨um, rfl, hI, hb⟩
          obtain ⟨am, cm, rfl, _, _⟩ := hI.slice
          have FM := Lib.hid (F.out.go hb)
          clear C F hb hI
          obtain ⟨c0, c1, c2⟩ := FM.out.c
          go_wp2_with fail
          have C := Lib.hid (checkp_fit (E := 2) (by decide +kernel) (FM.out.ps rfl))
          refine C.out.mono ?_
          rintro e wn ⟨rfl, hb⟩
          have FN := Lib.hid (FM.out.go hb).nb
          clear C FM hb c0 c1 c2
          go_wp2_with fail
          go_roundw
          case rel => exact ⟨14, by omega, by omega, by go_num, FN.out⟩
          case measure => simp [intOf]
      omega
    · obtain rfl : k = 14 := by omega
      go_wp2_with fail
      refine (HW.out _).mono ?_
      rintro e vv ⟨rfl, hb⟩
      have HB := Lib.hid (chn N.out.b hb)
      go_wp2_with fail
      go_ret
      exact ⟨rfl, HB.out⟩
end Go.Proofs.Ytldnlioafneejaa
