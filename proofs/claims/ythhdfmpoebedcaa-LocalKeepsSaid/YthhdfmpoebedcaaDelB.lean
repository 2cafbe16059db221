/- Check, the program's. -/
import Derived.Test.YthhdfmpoebedcaaDelA
import Derived.OwnWalk
namespace Go.Proofs.Ythhdfmpoebedcaa
open Go.RowKit Tk De Dl
set_option linter.unusedVariables false

/-- a row that was made whole -/
theorem own_full {w : World} {B e size n g : Nat} {xs : Array Value} (h : w.ownsRow B e size (.slice (some ⟨g, 0, none⟩) n n) n xs.toList) : w.heap[g]? = some (.cells xs e (0, 0)) ∧ xs.size = n * size := by
  have hl : xs.size = n * size := by have := h.1; rwa [Array.length_toList] at this
  rcases h.2 with ⟨h0, _⟩ | ⟨g', cap, cur, hv, _, hg, h1, h2, h3, h4⟩
  · cases h0
  · obtain ⟨rfl, rfl⟩ : g = g' ∧ n = cap := by simpa using hv
    have : cur = xs := by
      apply Array.toList_inj.1
      rw [← h4, List.take_of_length_le (by rw [Array.length_toList, h3]; exact Nat.le_refl _)]
    rw [← this]
    exact ⟨hg, h3⟩
theorem infoIn : (Try.prog.info? 3).map (fun i => (i.zero, i.size, i.bytes)) = some (some (.int .i64 0), 1, 8) := by kernel_rfl
/-- so many nothings, that can be read -/
def noughts (n : Nat) : List Int := List.replicate n 0
theorem made_at {n i : Nat} (h : i < n) : (madeCells #[.int .i64 0] n)[i]? = some (.int .i64 0) := by
  unfold madeCells
  rw [Array.getElem?_map, Array.getElem?_eq_getElem (by simpa using h)]
  simp [Nat.mod_one]
theorem is_made {w : World} {g n : Nat} (h : w.heap[g]? = some (.cells (madeCells (Value.int .i64 0).cells (n * 1)) 3 (0, 0))) (hn : n ≤ maxLen) : IS w (.slice (some ⟨g, 0, none⟩) n n) (noughts n) := by
  have hl : (noughts n).length = n := by simp [noughts]
  refine ⟨_, _, by rw [hl], by rw [hl]; exact Nat.le_refl _, hn, (fun h => by cases h), fun hp => ⟨g, 0, rfl, fun i hi => ?_⟩⟩
  rw [hl] at hi
  rw [cell_of_row w g (0 + i) _ _ _ h, Nat.zero_add, Nat.mul_one]
  refine (made_at hi).trans ?_
  simp [noughts, List.getD, hi]
theorem noughts_ok (n : Nat) (z : Nat → Nat → Int) : chkE n z (noughts n) = if tasksOK n z then 0 else 2 := by
  have h : moreOK (noughts n) = true := by
    rw [moreOK, List.all_eq_true]
    intro x hx
    rw [List.eq_of_mem_replicate hx]
    rfl
  have hl : (noughts n).length = n := by simp [noughts]
  unfold chkE chk
  rw [h, hl, decide_eq_true rfl, Bool.and_true, Bool.and_true]
/-- the program's test on a task of tasks that may be asked -/
theorem okTs_next {bud : Int} {z : Nat → Nat → Int} {k : Nat} {R : Bool} (h : okTs bud z k = true) (hk : okT bud (z k) = R) : okTs bud z (k + 1) = R := by unfold okTs; rw [h, hk]; rfl
/-- a partition by value, and its box -/
abbrev pv (per bud : Int) (a : Option Addr) (n cap : Nat) : Value := .agg #[.int .i64 per, .int .i64 bud, .slice a n cap]
def pvo (per bud : Int) (a : Option Addr) (n cap : Nat) : Obj := .cells #[.int .i64 per, .int .i64 bud, .slice a n cap] 33
/-- the box of a partition, and all that was there, are kept -/
structure KB (w W : World) (per bud : Int) (a : Option Addr) (n cap : Nat) : Prop where
  c0 : W.cell? ⟨w.heap.size, 0, none⟩ = some (.int .i64 per)
  c1 : W.cell? ⟨w.heap.size, 1, none⟩ = some (.int .i64 bud)
  c2 : W.cell? ⟨w.heap.size, 2, none⟩ = some (.slice a n cap)
  b : Below w.heap.size w W
theorem KB.made (w : World) (per bud : Int) (a : Option Addr) (n cap : Nat) : KB w (w.alloc (pvo per bud a n cap)) per bud a n cap :=
  ⟨cell_of_row _ _ 0 _ _ _ (heap_alloc_new w _), cell_of_row _ _ 1 _ _ _ (heap_alloc_new w _), cell_of_row _ _ 2 _ _ _ (heap_alloc_new w _), (Below.refl _ w).alloc (Nat.le_refl _) _⟩
theorem KB.below {w W W' : World} {per bud : Int} {a : Option Addr} {n cap : Nat} (h : KB w W per bud a n cap) (q : Below W.heap.size W W') : KB w W' per bud a n cap :=
  ⟨(q.cell (World.block_lt_of_cell? _ _ h.c0)).trans h.c0, (q.cell (World.block_lt_of_cell? _ _ h.c1)).trans h.c1, (q.cell (World.block_lt_of_cell? _ _ h.c2)).trans h.c2, chn h.b q⟩
theorem KB.alloc {w W : World} {per bud : Int} {a : Option Addr} {n cap : Nat} (h : KB w W per bud a n cap) (o : Obj) : KB w (W.alloc o) per bud a n cap := h.below ((Below.refl _ _).alloc (Nat.le_refl _) o)
theorem nought_facts {w V : World} {per bud : Int} {a : Option Addr} {n cap : Nat} (hn : n ≤ maxLen)
    (hown : V.ownsRow (w.alloc (pvo per bud a n cap)).heap.size 3 1 (.slice (some ⟨(w.alloc (pvo per bud a n cap)).heap.size, 0, none⟩) n n) n (madeCells (Value.int .i64 0).cells (n * 1)).toList)
    (hgrow : (w.alloc (pvo per bud a n cap)).grownBy V none) :
    V.cell? ⟨w.heap.size, 2, none⟩ = some (.slice a n cap) ∧ Hid (KB w V per bud a n cap) ∧ Hid (IS V (.slice (some ⟨w.heap.size + 1, 0, none⟩) n n) (noughts n)) := by
  have hb := (Below.refl (w.alloc (pvo per bud a n cap)).heap.size (w.alloc (pvo per bud a n cap))).grown hgrow (Nat.le_refl _) (fun k hk => by cases hk)
  have hk := (KB.made w per bud a n cap).below hb
  have hi := is_made (own_full hown).1 hn
  rw [World.size_alloc] at hi
  exact ⟨hk.c2, hk, hi⟩
set_option maxRecDepth 100000 in
set_option maxHeartbeats 4000000 in
theorem ptasks_any {w : World} {per bud : Int} {a : Option Addr} {n cap : Nat} {z : Nat → Nat → Int} (h : TK w (.slice a n cap) n z) (hc : cap ≤ maxLen) (hn : n ≤ 2199023255552) :
    Calls Try.prog 72 #[pv per bud a n cap] w (YB (tasksOK n z && okTs bud z n) w) := by
  obtain ⟨i0, hi, hz0, hz1, hz2⟩ := info_parts infoIn
  have hml : n ≤ maxLen := by unfold maxLen; omega
  have HT := Lib.hid h
  have HM := Lib.hid (fun V => nought_facts (w := w) (V := V) (per := per) (bud := bud) (a := a) (n := n) (cap := cap) hml)
  unfold pvo at HM
  have hmx : n ≤ 9223372036854775807 := by omega
  obtain ⟨R, hR⟩ : ∃ R, R = (tasksOK n z && okTs bud z n) := ⟨_, rfl⟩
  have HR0 := Lib.hid hR
  rw [← hR]
  clear h hR
  go_enter Try.func72, Try.ntmps72
  go_wp2_with (at_make; refine wpList_make_full _ rfl _ _ 38 rfl (w.alloc (.cells #[.int .i64 per, .int .i64 bud, .slice a n cap] 33)).heap.size 3 i0 _ 1 Try.underlying38 hi hz0 hz1 .i64 .i64 _ _ n rfl rfl rfl rfl (by rw [hz2]; omega) hml (Nat.le_refl _) ?_; intro V hown hgrow; obtain ⟨m2, HK, HI⟩ := HM.out V hown hgrow; clear hown hgrow)
  have HC := Lib.hid (check_any (HT.out.below HK.out.b) HI.out)
  rw [noughts_ok] at HC
  clear HM HI
  cases hx : tasksOK n z with
  | false =>
    rw [hx] at HC
    have HE : Hid (R = false) := HR0.out.trans (by rw [hx]; rfl)
    clear hx HR0
    refine HC.out.mono ?_
    rintro e w1 ⟨rfl, hb⟩
    have HB := Lib.hid (chn HK.out.b hb)
    clear hb
    go_wp2_with fail
    go_ret
    exact ⟨by rw [HE.out]; rfl, HB.out⟩
  | true =>
    rw [hx] at HC
    have HG := Lib.hid hx
    have HR : Hid (R = okTs bud z n) := HR0.out.trans (by rw [hx]; rfl)
    clear hx HR0 m2
    refine HC.out.mono ?_
    rintro e w1 ⟨rfl, hb⟩
    have HK1 := Lib.hid (HK.out.below hb)
    have m2 := HK1.out.c2
    clear hb HK HC
    go_wp2_with fail
    clear m2
    go_loopw [18] (fun i wr => ∃ k : Nat, k ≤ n ∧ i = .int .i64 k ∧ Hid (okTs bud z k = true) ∧ Hid (KB w wr per bud a n cap)) (fun i _ => n - (intOf i).toNat)
    case atStart => exact ⟨0, by omega, rfl, rfl, HK1.out⟩
    case round =>
      clear HK1
      obtain ⟨k, hk, rfl, HA, HK⟩ := hrel
      by_cases hlt : k < n
      · obtain ⟨b, off, rfl, c⟩ := (HT.out.below HK.out.b).at hlt
        obtain ⟨c0, c1, c2, c3, c4, c5, c6, c7⟩ := c
        have HK2 := Lib.hid (HK.out.alloc (tko (z k)))
        have d1 := HK2.out.c1
        have hok : tOK (z k) = true := (good_of HG.out).task hlt
        have HO := Lib.hid (okT_sh (bud := bud) hok)
        have HS := Lib.hid (fun W => shared_any (z k) bud W hok)
        have HW := Lib.hid (fun W => dwithin_any (z k 4) 0 (z k 2) W)
        have HN : Hid (okT bud (z k) = false → R = false) := fun hf => HR.out.trans (okTs_no hlt hf)
        have HY : Hid (okT bud (z k) = true → okTs bud z (k + 1) = true) := fun hf => okTs_next HA.out hf
        unfold tko at HK2 d1
        unfold tv at HS
        clear hok HA
        generalize shP bud (z k) = s2 at *
        generalize inn 0 (z k 2) (z k 4) = s1 at *
        cases s1 with
        | false =>
          have HE : Hid (R = false) := HN.out HO.out
          clear HN HY HO
          go_wp2_with fail
          refine (HW.out _).mono ?_
          rintro e w1 ⟨rfl, rfl⟩
          go_wp2_with fail
          go_ret
          exact ⟨by rw [HE.out]; rfl, HK2.out.b⟩
        | true =>
          rw [Bool.true_and] at HO
          go_wp2_with fail
          refine (HW.out _).mono ?_
          rintro e w1 ⟨rfl, rfl⟩
          go_wp2_with fail
          refine (HS.out _).mono ?_
          rintro e w2 ⟨rfl, hb⟩
          have HK3 := Lib.hid (HK2.out.below hb)
          clear hb c0 c1 c2 c3 c4 c5 c6 c7 d1
          cases s2 with
          | false =>
            have HE : Hid (R = false) := HN.out HO.out
            clear HN HY HO
            go_wp2_with fail
            go_ret
            exact ⟨by rw [HE.out]; rfl, HK3.out.b⟩
          | true =>
            have HE := Lib.hid (HY.out HO.out)
            clear HN HY HO
            go_wp2_with fail
            go_roundw
            case rel => exact ⟨k + 1, by omega, by go_num, HE, HK3⟩
            case measure => simp [intOf]; omega
      · obtain rfl : k = n := by omega
        have HE : Hid (R = true) := HR.out.trans HA.out
        go_wp2_with fail
        go_ret
        exact ⟨by rw [HE.out]; rfl, HK.out.b⟩
theorem ptasks_fit {w : World} {per bud : Int} {a : Option Addr} {n cap : Nat} {z : Nat → Nat → Int} {R : Bool} (hr : (tasksOK n z && okTs bud z n) = R) (h : TK w (.slice a n cap) n z) (hc : cap ≤ maxLen) (hn : n ≤ 2199023255552) :
    Calls Try.prog 72 #[pv per bud a n cap] w (YB R w) := by subst hr; exact ptasks_any h hc hn
/-- of the first k of them each may be asked -/
def okK (l : List Pn) : Nat → Bool
  | 0 => true
  | k + 1 => okK l k && okP (l.getD k p0)
theorem okK_all {l : List Pn} : ∀ {k : Nat}, okK l k = true ↔ ∀ i, i < k → okP (l.getD i p0) = true
  | 0 => by simp [okK]
  | k + 1 => by
    rw [okK, Bool.and_eq_true, okK_all]
    exact ⟨fun h i hi => by
      by_cases e : i = k
      · subst e; exact h.2
      · exact h.1 i (by omega), fun h => ⟨fun i hi => h i (by omega), h k (by omega)⟩⟩
theorem okK_chk {l : List Pn} (h : okK l l.length = true) (hl : l.length ≤ 4) : chkP l = true := okP_all (okK_all.1 h) hl
theorem okP_three (p : Pn) : okP p = (inn 1 64 p.per && (inn 1 p.per p.bud && (tasksOK p.n p.z && okTs p.bud p.z p.n))) := by
  unfold okP inn
  simp only [Bool.and_assoc]
set_option maxRecDepth 100000 in
set_option maxHeartbeats 4000000 in
theorem parts_any {w : World} {v : Value} {ps : List Pn} (h : PS w v ps) : Calls Try.prog 63 #[v] w (YB (chkP ps) w) := by
  obtain ⟨a, cap, rfl, hn1, hn2⟩ := h.slice
  have HP := Lib.hid h
  obtain ⟨n, hn⟩ : ∃ n, n = ps.length := ⟨_, rfl⟩
  have HN := Lib.hid hn
  rw [← hn] at hn1 HP ⊢
  clear h hn
  have hmx : n ≤ 9223372036854775807 := by unfold maxLen at hn2; omega
  obtain ⟨R, hR⟩ : ∃ R, R = chkP ps := ⟨_, rfl⟩
  have HR := Lib.hid hR
  rw [← hR]
  clear hR
  cases hx : decide (n ≤ 4) with
  | false =>
    have h4 : decide ((4 : Int) < (n : Int)) = true := by have := of_decide_eq_false hx; simp; omega
    have HF : Hid (R = false) := HR.out.trans (okP_len (by have := of_decide_eq_false hx; have := HN.out; omega))
    clear hx
    go_enter Try.func63, Try.ntmps63
    go_wp2_with fail
    go_ret
    exact ⟨by rw [HF.out]; rfl, Below.refl _ _⟩
  | true =>
    have h4 : decide ((4 : Int) < (n : Int)) = false := by have := of_decide_eq_true hx; simp; omega
    have HL : Hid (ps.length ≤ 4) := by have := of_decide_eq_true hx; have := HN.out; unfold Hid; omega
    clear hx
    go_enter Try.func63, Try.ntmps63
    go_wp2_with fail
    go_loopw [10] (fun i wr => ∃ k : Nat, k ≤ n ∧ i = .int .i64 k ∧ Hid (okK ps k = true) ∧ Hid (Below w.heap.size w wr)) (fun i _ => n - (intOf i).toNat)
    case atStart => exact ⟨0, by omega, rfl, rfl, Below.refl _ _⟩
    case round =>
      obtain ⟨k, hk, rfl, HA, HB⟩ := hrel
      by_cases hlt : k < n
      · obtain ⟨b, off, ta, tcap, rfl, c0, c1, c2, hT, l1, l2, l3⟩ := (HP.out.below HB.out).at hlt
        obtain ⟨p, hp⟩ : ∃ p, p = ps.getD k p0 := ⟨_, rfl⟩
        have HNO : Hid (okP p = false → R = false) := fun hf => HR.out.trans (okP_no (by rw [← HN.out]; exact hlt) (by rw [← hp]; exact hf))
        have HYE : Hid (okP p = true → okK ps (k + 1) = true) := fun hf => by unfold okK; rw [HA.out, ← hp, hf]; rfl
        rw [← hp] at c0 c1 c2 hT l1 l3
        have HO := Lib.hid (okP_three p)
        clear hp HA
        obtain ⟨per, bud, m, z⟩ := p
        dsimp only at c0 c1 c2 hT l1 l3 HO
        generalize okP ⟨per, bud, m, z⟩ = q at *
        have HK := Lib.hid (KB.made wr per bud ta m tcap)
        have HT := Lib.hid (fun W (hb : Below wr.heap.size wr W) => ptasks_any (w := W) (per := per) (bud := bud) (hT.below hb) l2 l3)
        unfold pvo at HK
        unfold pv at HT
        have d0 := HK.out.c0; have d1 := HK.out.c1; have d2 := HK.out.c2
        clear hT l1
        generalize (tasksOK m z && okTs bud z m) = s3 at *
        cases g0 : inn 1 64 per with
        | false =>
          have HE : Hid (R = false) := HNO.out (by rw [HO.out, g0]; rfl)
          have G0 := Lib.hid (dwithin_fit g0)
          clear g0 HO HNO HYE HT
          go_wp2_with fail
          refine (G0.out _).mono ?_
          rintro e w1 ⟨rfl, rfl⟩
          go_wp2_with fail
          go_ret
          exact ⟨by rw [HE.out]; rfl, chn HB.out HK.out.b⟩
        | true =>
          cases g1 : inn 1 per bud with
          | false =>
            have HE : Hid (R = false) := HNO.out (by rw [HO.out, g0, g1]; rfl)
            have G0 := Lib.hid (dwithin_fit g0); have G1 := Lib.hid (dwithin_fit g1)
            clear g0 g1 HO HNO HYE HT
            go_wp2_with fail
            refine (G0.out _).mono ?_
            rintro e w1 ⟨rfl, rfl⟩
            go_wp2_with fail
            refine (G1.out _).mono ?_
            rintro e w1 ⟨rfl, rfl⟩
            go_wp2_with fail
            go_ret
            exact ⟨by rw [HE.out]; rfl, chn HB.out HK.out.b⟩
          | true =>
            have HQ : Hid (q = s3) := by unfold Hid; rw [HO.out, g0, g1]; rfl
            have G0 := Lib.hid (dwithin_fit g0); have G1 := Lib.hid (dwithin_fit g1)
            have HT1 := Lib.hid (HT.out _ HK.out.b)
            clear g0 g1 HO HT
            go_wp2_with fail
            refine (G0.out _).mono ?_
            rintro e w1 ⟨rfl, rfl⟩
            go_wp2_with fail
            refine (G1.out _).mono ?_
            rintro e w1 ⟨rfl, rfl⟩
            go_wp2_with fail
            refine HT1.out.mono ?_
            rintro e w1 ⟨rfl, hb⟩
            have HB2 := Lib.hid (chn HB.out (HK.out.below hb).b)
            clear hb HT1 c0 c1 c2 d0 d1 d2 HK HB
            cases s3 with
            | false =>
              have HE : Hid (R = false) := HNO.out HQ.out
              clear HNO HYE HQ
              go_wp2_with fail
              go_ret
              exact ⟨by rw [HE.out]; rfl, HB2.out⟩
            | true =>
              have HE := Lib.hid (HYE.out HQ.out)
              clear HNO HYE HQ
              go_wp2_with fail
              go_roundw
              case rel => exact ⟨k + 1, by omega, by go_num, HE, HB2⟩
              case measure => simp [intOf]; omega
      · obtain rfl : k = n := by omega
        have HE : Hid (R = true) := HR.out.trans (okK_chk (by rw [← HN.out]; exact HA.out) HL.out)
        go_wp2_with fail
        go_ret
        exact ⟨by rw [HE.out]; rfl, HB.out⟩
theorem checkp_any {w : World} {v : Value} {ps : List Pn} (h : PS w v ps) : Calls Try.prog 51 #[v] w (YI (chkPE ps) w) := by
  have H1 := Lib.hid (parts_any h)
  obtain ⟨a, cap, rfl, hn1, hn2⟩ := h.slice
  unfold chkPE
  clear h
  cases hx : chkP ps with
  | false =>
    rw [hx] at H1
    go_enter Try.func51, Try.ntmps51
    go_wp2_with fail
    refine H1.out.mono ?_
    rintro e w1 ⟨rfl, hb⟩
    go_wp2_with fail
    go_ret
    exact ⟨rfl, hb⟩
  | true =>
    rw [hx] at H1
    go_enter Try.func51, Try.ntmps51
    go_wp2_with fail
    refine H1.out.mono ?_
    rintro e w1 ⟨rfl, hb⟩
    go_wp2_with fail
    go_ret
    exact ⟨rfl, hb⟩
end Go.Proofs.Ythhdfmpoebedcaa
