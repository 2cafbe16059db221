/- DemandSound. -/
import Derived.Test.YtdlhnkjghiphoaaDemS
namespace Go.Proofs.Ytdlhnkjghiphoaa
open Go.RowKit Tk De
set_option linter.unusedVariables false

/-- how much later the next job is -/
def dl8 (xs : List Int) (j : Nat) : Nat := if 0 < xs.length then bn (xs.getD (j % xs.length) 0) 20 else 0
theorem dl8_le (xs : List Int) (j : Nat) : dl8 xs j ≤ 20 := by
  unfold dl8
  split
  · exact Nat.le_of_lt (bn_lt _ (by decide))
  · exact Nat.zero_le _
/-- what is more -/
def mo8 (f : Int) (i : Nat) : Nat := bn (wrap64 (f + i)) 5
theorem mo8_le (f : Int) (i : Nat) : mo8 f i ≤ 4096 := by
  have := bn_lt (wrap64 (f + i)) (show 0 < 5 by decide)
  unfold mo8
  omega
/-- the pairs, by the tasks made -/
def jj (z : Nat → Nat → Int) (f : Int) (i : Nat) : Nat := mB z i + mo8 f i
def paz (z : Nat → Nat → Int) (f : Int) (b : Nat) (xs : List Int) (i : Nat) : List (Nat × Nat) := pa b (mP z) (mD z) (jj z f) (dl8 xs) i
def ptz (z : Nat → Nat → Int) (f : Int) (b : Nat) (xs : List Int) (i k : Nat) : List (Nat × Nat) := pt b (mP z i) (mD z i) (jj z f i) (dl8 xs) i k
theorem jj_le (z : Nat → Nat → Int) (f : Int) (i : Nat) : jj z f i ≤ 4160 := by
  have := mz_bd z i
  have := mo8_le f i
  have := bn_lt (wrap64 (f + i)) (show 0 < 5 by decide)
  have e : mo8 f i = bn (wrap64 (f + i)) 5 := rfl
  unfold jj
  omega
/-- what the pairs add up to -/
theorem paz_ok (z : Nat → Nat → Int) (f : Int) (b : Nat) (xs : List Int) {m : Nat} (hm : m ≤ 4) (t : Nat) (ht : t ≤ 200) :
    ∃ most : Nat, ofR m (mz z) (fs (mo8 f) m) (t : Nat) = (((most : Nat) : Int), 0) ∧ su t (paz z f b xs m) ≤ most := by
  have hg := more_goods z hm (F := mo8 f) (fun i _ => mo8_le f i)
  refine ⟨_, ofR_ok hg.ok (by omega), ?_⟩
  have e : ∀ n, n ≤ m → dem (per (mz z)) (dea (mz z)) (asks (mz z) (fs (mo8 f) m)) t n = dem (mP z) (mD z) (jj z f) t n := by
    intro n
    induction n with
    | zero => intro _; rfl
    | succ n ih =>
      intro hn
      have e1 : per (mz z) n = mP z n := rfl
      have e2 : dea (mz z) n = mD z n := rfl
      have e3 : asks (mz z) (fs (mo8 f) m) n = jj z f n := by
        unfold asks jj
        rw [fs_at (by omega)]
        rfl
      rw [dem, dem, ih (by omega), e1, e2, e3]
  rw [e m (Nat.le_refl m)]
  exact su_pa_le (fun i _ => (mz_bd z i).1)
theorem paz_small (z : Nat → Nat → Int) (f : Int) (b : Nat) (xs : List Int) (m : Nat) : Small (paz z f b xs m) :=
  small_pa (dl8_le xs) (fun i _ => ⟨(mz_bd z i).2.1, by have := mz_bd z i; omega, jj_le z f i⟩)
theorem fst_snoc (l : List (Nat × Nat)) (q : Nat × Nat) : (l ++ [q]).map Prod.fst = l.map Prod.fst ++ [q.1] := by simp
theorem snd_snoc (l : List (Nat × Nat)) (q : Nat × Nat) : (l ++ [q]).map Prod.snd = l.map Prod.snd ++ [q.2] := by simp
def esz (z : Nat → Nat → Int) (f : Int) (b : Nat) (xs : List Int) (j k : Nat) : List Nat := (paz z f b xs j ++ ptz z f b xs j k).map Prod.fst
def asz (z : Nat → Nat → Int) (f : Int) (b : Nat) (xs : List Int) (j k : Nat) : List Nat := (paz z f b xs j ++ ptz z f b xs j k).map Prod.snd
theorem esz_0 (z : Nat → Nat → Int) (f : Int) (b : Nat) (xs : List Int) (j : Nat) : (paz z f b xs j).map Prod.fst = esz z f b xs j 0 := by unfold esz ptz pt; rw [List.append_nil]
theorem asz_0 (z : Nat → Nat → Int) (f : Int) (b : Nat) (xs : List Int) (j : Nat) : (paz z f b xs j).map Prod.snd = asz z f b xs j 0 := by unfold asz ptz pt; rw [List.append_nil]
theorem esz_end (z : Nat → Nat → Int) (f : Int) (b : Nat) (xs : List Int) (j : Nat) : esz z f b xs j 10 = (paz z f b xs (j + 1)).map Prod.fst := rfl
theorem asz_end (z : Nat → Nat → Int) (f : Int) (b : Nat) (xs : List Int) (j : Nat) : asz z f b xs j 10 = (paz z f b xs (j + 1)).map Prod.snd := rfl
theorem ptz_yes {z : Nat → Nat → Int} {f : Int} {b : Nat} {xs : List Int} {j k : Nat} (h : b ≤ rel (mP z j) (dl8 xs) j k) :
    esz z f b xs j (k + 1) = esz z f b xs j k ++ [rel (mP z j) (dl8 xs) j k + mD z j - b] ∧ asz z f b xs j (k + 1) = asz z f b xs j k ++ [jj z f j] := by
  unfold esz asz ptz
  rw [pt, if_pos h, ← List.append_assoc, fst_snoc, snd_snoc]
  exact ⟨rfl, rfl⟩
theorem ptz_no {z : Nat → Nat → Int} {f : Int} {b : Nat} {xs : List Int} {j k : Nat} (h : ¬ b ≤ rel (mP z j) (dl8 xs) j k) :
    esz z f b xs j (k + 1) = esz z f b xs j k ∧ asz z f b xs j (k + 1) = asz z f b xs j k := by
  unfold esz asz ptz
  rw [pt, if_neg h, List.append_nil]
  exact ⟨rfl, rfl⟩
theorem esz_len (z : Nat → Nat → Int) (f : Int) (b : Nat) (xs : List Int) {j k : Nat} (hj : j ≤ 4) (hk : k ≤ 10) : (esz z f b xs j k).length ≤ 1000 ∧ (asz z f b xs j k).length ≤ 1000 := by
  have h1 := pa_len b (mP z) (mD z) (jj z f) (dl8 xs) j
  have h2 := pt_len b (mP z j) (mD z j) (jj z f j) (dl8 xs) j k
  unfold esz asz paz ptz
  simp only [List.length_map, List.length_append]
  omega
theorem dl8_zero {xs : List Int} {len j : Nat} (h : len = xs.length) (h0 : len = 0) : dl8 xs j = 0 := if_neg (by omega)
theorem dl8_some {xs : List Int} {len j : Nat} (h : len = xs.length) (h0 : 0 < len) : dl8 xs j = bn (xs.getD (j % len) 0) 20 := by subst h; exact if_pos h0
theorem rel_bd (z : Nat → Nat → Int) (xs : List Int) (j k : Nat) (hk : k ≤ 10) : atk (mP z j) (dl8 xs) j k ≤ 840 ∧ rel (mP z j) (dl8 xs) j k ≤ 860 := by
  have h1 := atk_le (d := dl8 xs) (mz_bd z j).2.1 (dl8_le xs) j k
  have h2 := dl8_le xs (j * 10 + k)
  unfold rel
  omega
/-- the two rows, read -/
def fi (pl : List (Nat × Nat)) : List Int := pl.map fun q => (q.1 : Int)
def si (pl : List (Nat × Nat)) : List Int := pl.map fun q => (q.2 : Int)
theorem fi_at {pl : List (Nat × Nat)} {k : Nat} (h : k < pl.length) : (fi pl).getD k 0 = ((pl.getD k (0, 0)).1 : Int) := by simp [fi, List.getD, h]
theorem si_at {pl : List (Nat × Nat)} {k : Nat} (h : k < pl.length) : (si pl).getD k 0 = ((pl.getD k (0, 0)).2 : Int) := by simp [si, List.getD, h]
theorem small_at {pl : List (Nat × Nat)} {k : Nat} (hs : Small pl) (h : k < pl.length) : (pl.getD k (0, 0)).1 ≤ 2000 ∧ (pl.getD k (0, 0)).2 ≤ 5000 := by
  have e : pl.getD k (0, 0) = pl[k] := by simp [List.getD, h]
  rw [e]
  exact hs _ (List.getElem_mem h)
theorem su_take_le {t : Nat} {pl : List (Nat × Nat)} (hs : Small pl) (h : pl.length ≤ 40) (k : Nat) : su t (pl.take k) ≤ 200000 := by
  have h1 : Small (pl.take k) := fun q hq => hs q (List.mem_of_mem_take hq)
  have h2 := su_le (t := t) h1
  have h3 : (pl.take k).length ≤ pl.length := by rw [List.length_take]; omega
  omega
theorem paz_len (z : Nat → Nat → Int) (f : Int) (b : Nat) (xs : List Int) {m : Nat} (h : m ≤ 4) : (paz z f b xs m).length ≤ 40 := by
  have := pa_len b (mP z) (mD z) (jj z f) (dl8 xs) m
  unfold paz
  omega
theorem rows_of {w1 W : World} {g : Nat} {cur : Array Value} {vE vA : Value} {pl : List (Nat × Nat)} (h : St w1 W g cur vE vA (pl.map Prod.fst) (pl.map Prod.snd)) :
    ∃ ae ce aa ca, vE = .slice ae pl.length ce ∧ vA = .slice aa pl.length ca ∧ IS W (.slice ae pl.length ce) (fi pl) ∧ IS W (.slice aa pl.length ca) (si pl) := by
  have e1 : (pl.map Prod.fst).map (fun q : Nat => (q : Int)) = fi pl := by simp [fi, Function.comp_def]
  have e2 : (pl.map Prod.snd).map (fun q : Nat => (q : Int)) = si pl := by simp [si, Function.comp_def]
  have hE := is_of_nv h.E
  have hA := is_of_nv h.A
  rw [e1] at hE
  rw [e2] at hA
  obtain ⟨ae, ce, rfl, _, _⟩ := hE.slice
  obtain ⟨aa, ca, rfl, _, _⟩ := hA.slice
  have l1 : (fi pl).length = pl.length := by simp [fi]
  have l2 : (si pl).length = pl.length := by simp [si]
  rw [l1] at hE ⊢
  rw [l2] at hA ⊢
  exact ⟨ae, ce, aa, ca, rfl, rfl, hE, hA⟩
theorem is_of_cells {W : World} {g n : Nat} {cur : Array Value} {F : Nat → Nat} (h : W.heap[g]? = some (.cells cur 3 (0, 0))) (hc : cur = ((fs F n).map (Value.int .i64)).toArray) (hn : n ≤ 4) : IS W (.slice (some ⟨g, 0, none⟩) n n) (fs F n) := by
  refine ⟨some ⟨g, 0, none⟩, n, by rw [fs_len], by rw [fs_len]; exact Nat.le_refl _, by unfold maxLen; omega, (fun h => by cases h), fun _ => ⟨g, 0, rfl, fun i hi => ?_⟩⟩
  rw [Nat.zero_add]
  refine (cell_of_row W g i _ _ _ h).trans ?_
  rw [fs_len] at hi
  rw [hc]
  simp [fs, List.getD, hi]
set_option maxRecDepth 100000 in
set_option maxHeartbeats 8000000 in
theorem sound_law {w : World} {v u : Value} {n : Nat} {z : Nat → Nat → Int} {xs : List Int} (h : TK w v n z) (hx : IS w u xs) (f : Int) :
    Calls Try.prog 5 #[v, u, .int .i64 f] w (TrueB w) := by
  obtain ⟨i0, hi, hz0, hz1, hz2⟩ := info_parts infoIn
  have HI := Lib.hid (⟨hi, hz0, hz1, hz2⟩ : _ ∧ _ ∧ _ ∧ _)
  have HT := Lib.hid h; have HX := Lib.hid hx
  obtain ⟨b, hb⟩ : ∃ b, b = bn f 200 := ⟨_, rfl⟩
  have hb2 := bn_lt f (show 0 < 200 by decide)
  have HBr := Lib.hid (fun w => bring_bn f 200 w (by decide) (by decide))
  rw [← hb] at HBr hb2
  have HPok := Lib.hid (fun m hm t ht => paz_ok z f b xs (m := m) hm t ht)
  have HSm := Lib.hid (paz_small z f b xs)
  obtain ⟨cap2, a2, rfl, hu1, hu2⟩ : ∃ cap a, u = .slice a xs.length cap ∧ xs.length ≤ cap ∧ cap ≤ maxLen := by
    obtain ⟨a, cap, e, h1, h2⟩ := hx.slice; exact ⟨cap, a, e, h1, h2⟩
  obtain ⟨len, hlen⟩ : ∃ len, len = xs.length := ⟨_, rfl⟩
  have HLen := Lib.hid hlen
  have hlm : len ≤ 9223372036854775807 := by unfold maxLen at hu2; omega
  rw [← hlen] at HX ⊢
  clear h hx hi hz0 hz1 hz2 hb hu1 hu2 hlen
  go_enter Try.func5, Try.ntmps5
  go_wp2_with fail
  refine (works_any _).mono ?_
  rintro e w0 ⟨rfl, hb0⟩
  have HT0 := Lib.hid (HT.out.below hb0); have HX0 := Lib.hid (HX.out.below hb0); have HB0 := Lib.hid hb0
  clear hb0 HT HX
  go_wp2_with fail
  refine (made_any HT0.out).mono ?_
  rintro e w1 ⟨r, m, rfl, hm4, ht, hb1⟩
  have HT1 := Lib.hid ht; have HX1 := Lib.hid (HX0.out.below hb1); have HB1 := Lib.hid (chn HB0.out hb1)
  obtain ⟨a1, cap1, rfl, hc1, hc2⟩ := ht.slice
  clear hc1 hc2
  have Hm1 : Hid (i0.bytes * m ≤ 281474976710656) := by rw [Hid, HI.out.2.2.2]; omega
  have Hm2 : Hid (m ≤ maxLen) := by unfold Hid maxLen; omega
  clear hb1 ht HT0 HX0 HB0
  go_wp2_with (at_make; refine wpList_make_full _ rfl _ _ 23 rfl w1.heap.size 3 i0 _ 1 Try.underlying23 HI.out.1 HI.out.2.1 HI.out.2.2.1 .i64 .i64 _ _ m rfl rfl rfl rfl Hm1.out Hm2.out (Nat.le_refl _) ?_; intro V hown hgrow)
  obtain ⟨hg0, hsz0⟩ := own_full hown
  have hF0 : FN (madeCells (Value.int .i64 0).cells (m * 1)) (mo8 f) 0 m := by rw [Nat.mul_one]; exact FN.start (mo8 f) m
  obtain ⟨g, hg⟩ : ∃ g, g = w1.heap.size := ⟨_, rfl⟩
  have HS0 : Hid (St w1 V g (madeCells (Value.int .i64 0).cells (m * 1)) (.slice none 0 0) (.slice none 0 0) ((paz z f b xs 0).map Prod.fst) ((paz z f b xs 0).map Prod.snd)) := by
    rw [← hg] at hg0
    exact ⟨by rw [hg]; exact (Below.refl _ _).grown hgrow (Nat.le_refl _) (fun k hk => by cases hk), hg0, World.ownsRow_nil _ _ _ _, World.ownsRow_nil _ _ _ _, fun k hk => by cases hk⟩
  have HF0 := Lib.hid hF0
  rw [← hg]
  have HGG := Lib.hid hg
  clear hown hgrow hg0 hsz0 hF0 HI Hm1 Hm2 hg
  generalize madeCells (Value.int .i64 0).cells (m * 1) = cur0 at *
  go_wp2_with fail
  refine (HBr.out _).mono ?_
  rintro e w2 ⟨rfl, rfl⟩
  clear HBr
  go_wp2_with fail
  go_loopw [9, 10, 11, 12, 13] (fun vE vA i _ _ W => ∃ (j : Nat) (cur : Array Value), j ≤ m ∧ i = .int .i64 j ∧ Hid (FN cur (mo8 f) j m) ∧ Hid (St w1 W g cur vE vA ((paz z f b xs j).map Prod.fst) ((paz z f b xs j).map Prod.snd))) (fun _ _ i _ _ _ => m - (intOf i).toNat)
  case atStart => exact ⟨0, cur0, by omega, rfl, HF0, HS0⟩
  case round =>
    clear HS0 HF0
    obtain ⟨j, cur, hj, rfl, HF, HS⟩ := hrel
    by_cases hlt : j < m
    · have hj4 : j < 4 := by omega
      obtain ⟨fj, hfj⟩ : ∃ fj, wrap64 (f + j) = fj := ⟨_, rfl⟩
      have hmo : mo8 f j = bn fj 5 := by unfold mo8; rw [hfj]
      have HB5 := Lib.hid (fun w => bring_bn fj 5 w (by decide) (by decide))
      rw [← hmo] at HB5
      have HF2 := Lib.hid (HF.out.step hlt)
      have hcs := HF.out.size hj
      obtain ⟨q0, f0⟩ := cell_at HS.out.G (i := j) (by omega)
      have g0 : wr.frozen? ⟨g, j, none⟩ = false := frozen_of_row _ _ j _ _ HS.out.G
      have HS1 := Lib.hid (HS.out.set j (.int .i64 (mo8 f j)))
      rw [esz_0, asz_0] at HS1
      have HJ : Hid (jj z f j = mB z j + mo8 f j) := rfl
      have hF5 : mo8 f j ≤ 4096 := mo8_le f j
      have HCur : Hid ((cur.setIfInBounds j (.int .i64 (mo8 f j)))[j]? = some (.int .i64 (mo8 f j : Nat))) := by unfold Hid; rw [Array.getElem?_setIfInBounds, if_pos rfl, if_pos (by omega)]
      obtain ⟨F, hFF⟩ : ∃ F, mo8 f j = F := ⟨_, rfl⟩
      rw [hFF] at HB5 HS1 HF2 HJ HCur hF5
      obtain ⟨Wa, hWa⟩ : ∃ Wa, Wa = wr.setCell ⟨g, j, none⟩ (.int .i64 F) := ⟨_, rfl⟩
      rw [← hWa] at HS1
      have hbd0 := mz_bd z j
      obtain ⟨b1, off, rfl, c⟩ := HT1.out.at hlt
      obtain ⟨c0, c1, c2, _, _, _, _, _⟩ := c
      have HB1l : Hid (b1 < g ∧ w1.cell? ⟨b1, off + j * 8, none⟩ = some (.int .i64 (mP z j)) ∧ w1.cell? ⟨b1, off + j * 8 + 1, none⟩ = some (.int .i64 (mD z j)) ∧ w1.cell? ⟨b1, off + j * 8 + 2, none⟩ = some (.int .i64 (mB z j))) := ⟨by rw [HGG.out]; exact World.block_lt_of_cell? _ _ c0, c0, c1, c2⟩
      have HRb := Lib.hid (rel_bd z xs j)
      have HAt0 : Hid (atk (mP z j) (dl8 xs) j 0 = 0) := rfl
      have HJle := jj_le z f j
      have HAtS : Hid (∀ k, rel (mP z j) (dl8 xs) j k + mP z j = atk (mP z j) (dl8 xs) j (k + 1)) := fun k => rfl
      have HRelS : Hid (∀ k, rel (mP z j) (dl8 xs) j k = atk (mP z j) (dl8 xs) j k + dl8 xs (j * 10 + k)) := fun k => rfl
      clear HS HF hmo c0 c1 c2
      go_wp2_with fail
      refine (HB5.out _).mono ?_
      rintro e w2 ⟨rfl, rfl⟩
      go_wp2_with fail
      rw [← hWa]
      clear hWa f0 g0 HB5 hfj
      go_loopw [9, 10, 12, 13] (fun vE vA t i W => ∃ k : Nat, k ≤ 10 ∧ i = .int .i64 k ∧ t = .int .i64 (atk (mP z j) (dl8 xs) j k : Nat) ∧ Hid (St w1 W g (cur.setIfInBounds j (.int .i64 F)) vE vA (esz z f b xs j k) (asz z f b xs j k))) (fun _ _ _ i _ => 10 - (intOf i).toNat)
      case atStart => exact ⟨0, by omega, rfl, rfl, HS1.out⟩
      case round =>
        clear HS1
        obtain ⟨k, hk, rfl, rfl, HS⟩ := hrel
        by_cases hk10 : k < 10
        · have hkd : decide ((k : Int) < 10) = true := by simp; omega
          obtain ⟨A, hA⟩ : ∃ A, atk (mP z j) (dl8 xs) j k = A := ⟨_, rfl⟩
          obtain ⟨R, hR⟩ : ∃ R, rel (mP z j) (dl8 xs) j k = R := ⟨_, rfl⟩
          have hRd := HRelS.out k
          have HAt := Lib.hid (HAtS.out k)
          have hb1 := HRb.out k hk
          rw [hA, hR] at hRd hb1
          rw [hR] at HAt
          rw [hA]
          have HYes : Hid (b ≤ R → esz z f b xs j (k + 1) = esz z f b xs j k ++ [R + mD z j - b] ∧ asz z f b xs j (k + 1) = asz z f b xs j k ++ [jj z f j]) := fun h => by
            have := ptz_yes (z := z) (f := f) (xs := xs) (j := j) (k := k) (by rw [hR]; exact h)
            rw [hR] at this
            exact this
          have HNo : Hid (¬ b ≤ R → esz z f b xs j (k + 1) = esz z f b xs j k ∧ asz z f b xs j (k + 1) = asz z f b xs j k) := fun h => ptz_no (by rw [hR]; exact h)
          clear hA hR
          obtain ⟨dd, hdd⟩ : ∃ dd, dl8 xs (j * 10 + k) = dd := ⟨_, rfl⟩
          rw [hdd] at hRd
          generalize hP : mP z j = P at *
          generalize hD : mD z j = D at *
          generalize hB : mB z j = B at *
          generalize hJJ : jj z f j = J at *
          have c0 := (HS.out.below.cell HB1l.out.1).trans HB1l.out.2.1
          have c1 := (HS.out.below.cell HB1l.out.1).trans HB1l.out.2.2.1
          obtain ⟨hb1a, hb1b⟩ := hb1
          have hDl : D ≤ 64 := by omega
          have hPl : P ≤ 64 := by omega
          have hBw : Below w1.heap.size w1 wr := by rw [← HGG.out]; exact HS.out.below
          have HXr := Lib.hid (HX1.out.below hBw)
          obtain ⟨A2, hA2⟩ : ∃ A2, A2 = R + P := ⟨_, rfl⟩
          have HRp : (R : Int) + P = (A2 : Nat) := by omega
          rw [← hA2] at HAt
          clear hA2
          clear hBw hbd0 HRelS HAtS HRb HAt0
          cases hz : decide (0 < len) with
          | false =>
            have hdd0 : dd = 0 := by rw [← hdd]; exact dl8_zero HLen.out (by have := of_decide_eq_false hz; omega)
            obtain rfl : R = A := by omega
            clear hdd hdd0 hRd
            cases hbd : decide (b ≤ R) with
            | true =>
              have HY := Lib.hid (HYes.out (of_decide_eq_true hbd))
              obtain ⟨Ev, hEv⟩ : ∃ Ev, Ev = R + D - b := ⟨_, rfl⟩
              have hbr := of_decide_eq_true hbd
              have hE : (R : Int) + D - b = (Ev : Nat) := by omega
              rw [← hEv] at HY
              obtain ⟨vE2, wE, hrunE, hsE⟩ := (HS.out.alloc (.cells #[.int .i64 Ev] 3)).appE 23 Ev (cell_of_row _ _ 0 _ _ _ (heap_alloc_new wr (.cells #[.int .i64 Ev] 3))) (esz_len z f b xs (by omega) (by omega)).1
              have HsE := Lib.hid hsE
              have c2' := (hsE.below.cell HB1l.out.1).trans HB1l.out.2.2.2
              have cg : wE.cell? ⟨g, j, none⟩ = some (.int .i64 F) := (cell_of_row _ _ j _ _ _ hsE.G).trans HCur.out
              have hJ : IntKind.i64.wrap ((B : Int) + F) = J := by rw [show (B : Int) + F = J by have := HJ.out; omega]; exact IntWalk.i64_in _ (by omega)
              obtain ⟨vA2, wA, hrunA, hsA⟩ := (hsE.alloc (.cells #[.int .i64 J] 3)).drew.appA 23 J (cell_of_row (wE.alloc (.cells #[.int .i64 J] 3)) _ 0 _ _ _ (heap_alloc_new wE (.cells #[.int .i64 J] 3))) (esz_len z f b xs (by omega) (by omega)).2
              have HsA := Lib.hid hsA
              clear hEv hsE hsA HS
              go_wp2_with (at_builtin; refine wpList_append_eq rfl _ _ 23 23 rfl _ _ vE2 wE rfl rfl hrunE ?_)
              clear hrunE
              go_region_held3 (fun w' => w'.cell? ⟨b1, off + j * 8 + 2, none⟩ = some (.int .i64 B) ∧ w'.cell? ⟨g, j, none⟩ = some (.int .i64 F)) (first | assumption | exact ⟨c2', cg⟩ | go_keep)
                ((refine step_append_eq rfl (.tmp 76) (.tmp 87) 23 rfl _ _ vA2 (by simp [Act.eval]) (by simp [Act.eval]) hrunA ?_; have hq : wA.cell? ⟨b1, off + j * 8 + 2, none⟩ = some (.int .i64 B) ∧ wA.cell? ⟨g, j, none⟩ = some (.int .i64 F) := ⟨(HsA.out.below.cell HB1l.out.1).trans HB1l.out.2.2.2, (cell_of_row _ _ j _ _ _ HsA.out.G).trans HCur.out⟩))
              all_goals
                have c0' := (HsA.out.below.cell HB1l.out.1).trans HB1l.out.2.1
                have HSn : Hid (St w1 wA g (cur.setIfInBounds j (.int .i64 F)) vE2 vA2 (esz z f b xs j (k + 1)) (asz z f b xs j (k + 1))) := by rw [HY.out.1, HY.out.2]; exact HsA.out
                clear hq hrunA cg c2' c0 c1 HsE HsA HY
                go_wp2_with fail
                go_roundw
                case rel => exact ⟨k + 1, by omega, by go_num, by rw [← HAt.out], HSn⟩
                case measure => simp [intOf]; omega
            | false =>
              have HN := Lib.hid (HNo.out (of_decide_eq_false hbd))
              have HSn : Hid (St w1 wr g (cur.setIfInBounds j (.int .i64 F)) u9 u10 (esz z f b xs j (k + 1)) (asz z f b xs j (k + 1))) := by rw [HN.out.1, HN.out.2]; exact HS.out
              clear HS HN
              go_wp2_with fail
              go_roundw
              case rel => exact ⟨k + 1, by omega, by go_num, by rw [← HAt.out], HSn⟩
              case measure => simp [intOf]; omega
          | true =>
            have hlp := of_decide_eq_true hz
            obtain ⟨i10, hi10⟩ : ∃ i10, i10 = j * 10 + k := ⟨_, rfl⟩
            rw [← hi10] at hdd
            have hjx : (j : Int) * 10 + k = i10 := by omega
            have hdx : bn (xs.getD (i10 % len) 0) 20 = dd := by rw [← hdd]; exact (dl8_some HLen.out hlp).symm
            have hm := Nat.mod_lt i10 hlp
            have hmod : (i10 : Int) % len = ((i10 % len : Nat) : Int) := rfl
            generalize i10 % len = q at *
            obtain ⟨b2, off2, rfl, cx⟩ := HXr.out.at (i := q) hm
            generalize xs.getD q 0 = x at *
            have HB20 := Lib.hid (fun w => bring_bn x 20 w (by decide) (by decide))
            rw [hdx] at HB20
            have hnz : ((len : Int) == 0) = false := by simp; omega
            have hAd : (A : Int) + dd = R := by omega
            clear hdx hdd hi10 hRd
            go_wp2_with fail
            refine (HB20.out _).mono ?_
            rintro e w3 ⟨rfl, rfl⟩
            clear HB20 cx hmod hjx
            cases hbd : decide (b ≤ R) with
            | true =>
              have HY := Lib.hid (HYes.out (of_decide_eq_true hbd))
              obtain ⟨Ev, hEv⟩ : ∃ Ev, Ev = R + D - b := ⟨_, rfl⟩
              have hbr := of_decide_eq_true hbd
              have hE : (R : Int) + D - b = (Ev : Nat) := by omega
              rw [← hEv] at HY
              obtain ⟨vE2, wE, hrunE, hsE⟩ := (HS.out.alloc (.cells #[.int .i64 Ev] 3)).appE 23 Ev (cell_of_row _ _ 0 _ _ _ (heap_alloc_new wr (.cells #[.int .i64 Ev] 3))) (esz_len z f b xs (by omega) (by omega)).1
              have HsE := Lib.hid hsE
              have c2' := (hsE.below.cell HB1l.out.1).trans HB1l.out.2.2.2
              have cg : wE.cell? ⟨g, j, none⟩ = some (.int .i64 F) := (cell_of_row _ _ j _ _ _ hsE.G).trans HCur.out
              have hJ : IntKind.i64.wrap ((B : Int) + F) = J := by rw [show (B : Int) + F = J by have := HJ.out; omega]; exact IntWalk.i64_in _ (by omega)
              obtain ⟨vA2, wA, hrunA, hsA⟩ := (hsE.alloc (.cells #[.int .i64 J] 3)).drew.appA 23 J (cell_of_row (wE.alloc (.cells #[.int .i64 J] 3)) _ 0 _ _ _ (heap_alloc_new wE (.cells #[.int .i64 J] 3))) (esz_len z f b xs (by omega) (by omega)).2
              have HsA := Lib.hid hsA
              clear hEv hsE hsA HS
              go_wp2_with (at_builtin; refine wpList_append_eq rfl _ _ 23 23 rfl _ _ vE2 wE rfl rfl hrunE ?_)
              clear hrunE
              go_region_held3 (fun w' => w'.cell? ⟨b1, off + j * 8 + 2, none⟩ = some (.int .i64 B) ∧ w'.cell? ⟨g, j, none⟩ = some (.int .i64 F)) (first | assumption | exact ⟨c2', cg⟩ | go_keep)
                ((refine step_append_eq rfl (.tmp 76) (.tmp 87) 23 rfl _ _ vA2 (by simp [Act.eval]) (by simp [Act.eval]) hrunA ?_; have hq : wA.cell? ⟨b1, off + j * 8 + 2, none⟩ = some (.int .i64 B) ∧ wA.cell? ⟨g, j, none⟩ = some (.int .i64 F) := ⟨(HsA.out.below.cell HB1l.out.1).trans HB1l.out.2.2.2, (cell_of_row _ _ j _ _ _ HsA.out.G).trans HCur.out⟩))
              all_goals
                have c0' := (HsA.out.below.cell HB1l.out.1).trans HB1l.out.2.1
                have HSn : Hid (St w1 wA g (cur.setIfInBounds j (.int .i64 F)) vE2 vA2 (esz z f b xs j (k + 1)) (asz z f b xs j (k + 1))) := by rw [HY.out.1, HY.out.2]; exact HsA.out
                clear hq hrunA cg c2' c0 c1 HsE HsA HY
                go_wp2_with fail
                go_roundw
                case rel => exact ⟨k + 1, by omega, by go_num, by rw [← HAt.out], HSn⟩
                case measure => simp [intOf]; omega
            | false =>
              have HN := Lib.hid (HNo.out (of_decide_eq_false hbd))
              have HSn : Hid (St w1 wr g (cur.setIfInBounds j (.int .i64 F)) u9 u10 (esz z f b xs j (k + 1)) (asz z f b xs j (k + 1))) := by rw [HN.out.1, HN.out.2]; exact HS.out
              clear HS HN
              go_wp2_with fail
              go_roundw
              case rel => exact ⟨k + 1, by omega, by go_num, by rw [← HAt.out], HSn⟩
              case measure => simp [intOf]; omega
        · obtain rfl : k = 10 := by omega
          go_wp2_with fail
          go_roundw
          case rel => exact ⟨j + 1, _, by omega, by go_num, HF2, HS.out⟩
          case measure => simp [intOf]; omega
    · obtain rfl : j = m := by omega
      have hbw : Below w1.heap.size w1 wr := by rw [← HGG.out]; exact HS.out.below
      have HMo := Lib.hid (is_of_cells HS.out.G HF.out.done hm4)
      have HTo := Lib.hid (HT1.out.below hbw)
      have HBo := Lib.hid (chn HB1.out hbw)
      obtain ⟨ae, ce, aa, ca, rfl, rfl, hE, hA⟩ := rows_of HS.out
      have HEo := Lib.hid hE; have HAo := Lib.hid hA
      have HSm2 := Lib.hid (HSm.out j)
      have HP2 := Lib.hid (HPok.out j hm4)
      have hpl := paz_len z f b xs hm4
      clear HS HF HT1 HB1 HX1 hE hA hbw HPok HSm HGG
      generalize paz z f b xs j = pl at *
      obtain ⟨N, hN⟩ : ∃ N, N = pl.length := ⟨_, rfl⟩
      have HLn := Lib.hid hN
      rw [← hN] at HEo HAo ⊢
      have hN40 : N ≤ 40 := by omega
      have HStep : Hid (∀ t k, k < N → su t (pl.take (k + 1)) = su t (pl.take k) + (if (pl.getD k (0, 0)).1 ≤ t then (pl.getD k (0, 0)).2 else 0)) := fun t k h => su_step (by rw [← hN]; exact h)
      have HBd : Hid (∀ t k, su t (pl.take k) ≤ 200000) := fun t k => su_take_le HSm2.out hpl k
      have HSa : Hid (∀ k, k < N → (pl.getD k (0, 0)).1 ≤ 2000 ∧ (pl.getD k (0, 0)).2 ≤ 5000) := fun k h => small_at HSm2.out (by rw [← hN]; exact h)
      have HFa : Hid (∀ k, k < N → (fi pl).getD k 0 = ((pl.getD k (0, 0)).1 : Int)) := fun k h => fi_at (by rw [← hN]; exact h)
      have HSi : Hid (∀ k, k < N → (si pl).getD k 0 = ((pl.getD k (0, 0)).2 : Int)) := fun k h => si_at (by rw [← hN]; exact h)
      have HAll : Hid (∀ t, su t (pl.take N) = su t pl) := fun t => by rw [hN, List.take_length]
      clear hN hpl HSm2
      obtain ⟨wo, rfl⟩ : ∃ wo, wo = wr := ⟨_, rfl⟩
      go_wp2_with fail
      go_loopw [14, 15, 16, 17, 18] (fun t _ _ _ _ W => ∃ k : Nat, k ≤ 200 ∧ t = .int .i64 k ∧ Hid (Below wo.heap.size wo W)) (fun t _ _ _ _ _ => 200 - (intOf t).toNat)
      case atStart => exact ⟨0, by omega, rfl, Below.refl _ _⟩
      case round =>
        obtain ⟨t, ht, rfl, HW⟩ := hrel
        by_cases ht2 : t < 200
        · have htd : decide ((t : Int) < 200) = true := by simp; omega
          obtain ⟨most, hm, hle⟩ := HP2.out t (by omega)
          have HOf := Lib.hid hm
          have HLe := Lib.hid hle
          have HTr := Lib.hid (HTo.out.below HW.out); have HMr := Lib.hid (HMo.out.below HW.out)
          have HEr := Lib.hid (HEo.out.below HW.out); have HAr := Lib.hid (HAo.out.below HW.out)
          clear hm hle HTo HMo HEo HAo HP2
          go_wp2_with fail
          go_loop [15, 16] (fun s i => ∃ k : Nat, k ≤ N ∧ i = .int .i64 k ∧ s = .int .i64 (su t (pl.take k) : Nat)) (fun _ i => N - (intOf i).toNat)
          case atStart => exact ⟨0, by omega, rfl, rfl⟩
          case round =>
            obtain ⟨k, hk, rfl, rfl⟩ := hrel
            by_cases hkn : k < N
            · obtain ⟨b3, o3, rfl, c3⟩ := HEr.out.at hkn
              obtain ⟨b4, o4, rfl, c4⟩ := HAr.out.at hkn
              rw [HFa.out k hkn] at c3
              rw [HSi.out k hkn] at c4
              have hst := HStep.out t k hkn
              have hbd := HBd.out t k
              have hsa := HSa.out k hkn
              clear HEr HAr HFa HSi HStep HBd HSa HAll
              generalize (pl.getD k (0, 0)).1 = x at *
              generalize (pl.getD k (0, 0)).2 = y at *
              obtain ⟨S, hS⟩ : ∃ S, su t (pl.take k) = S := ⟨_, rfl⟩
              rw [hS] at hst hbd ⊢
              clear hS
              obtain ⟨hx1, hy1⟩ := hsa
              cases hxt : decide (x ≤ t) with
              | true =>
                rw [if_pos (of_decide_eq_true hxt)] at hst
                obtain ⟨S2, hS2⟩ : ∃ S2, S2 = S + y := ⟨_, rfl⟩
                have hsy : (S : Int) + y = (S2 : Nat) := by omega
                have HN := Lib.hid (hst.trans hS2.symm)
                clear hst hS2
                go_wp2_with fail
                go_round
                case rel => exact ⟨k + 1, by omega, by go_num, by rw [HN.out]⟩
                case measure => simp [intOf]; omega
              | false =>
                rw [if_neg (of_decide_eq_false hxt)] at hst
                have HN := Lib.hid (hst.trans (Nat.add_zero S))
                clear hst
                go_wp2_with fail
                go_round
                case rel => exact ⟨k + 1, by omega, by go_num, by rw [HN.out]⟩
                case measure => simp [intOf]; omega
            · obtain rfl : k = N := by omega
              rw [HAll.out t]
              have hcmp0 := HLe.out
              clear HEr HAr HFa HSi HStep HBd HSa HAll HLe
              generalize su t pl = S at *
              have hcmp : decide (most < S) = false := decide_eq_false (by omega)
              go_wp2_with fail
              refine (of_fit HOf.out HTr.out HMr.out).mono ?_
              rintro e w2 ⟨rfl, hb⟩
              have HW2 := Lib.hid (chn HW.out hb)
              clear hb HW HTr HMr HOf
              go_wp2_with fail
              go_roundw
              case rel => exact ⟨t + 1, by omega, by go_num, HW2⟩
              case measure => simp [intOf]; omega
        · obtain rfl : t = 200 := by omega
          go_wp2_with fail
          go_ret
          exact ⟨rfl, chn HBo.out HW.out⟩
end Go.Proofs.Ytdlhnkjghiphoaa
