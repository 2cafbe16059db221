/- StackOnce. -/
import Derived.Test.YtmheggedlepdlaaStaU
import Derived.Deep.Cut
namespace Go.Proofs.Ytmheggedlepdlaa
open Go.RowKit Lv Sk Go.Sort
set_option linter.unusedVariables false

/-- the rows tell what tasks have, the bools what is locked -/
structure RL (l : List En) (hs : Nat → List Int) (ks : Nat → Bool) : Prop where
  h : ∀ i : Nat, i < 4 → hs i = held l (i : Int)
  k : ∀ r : Nat, r < 8 → ks r = has l (r : Int)
theorem RL.start : RL [] (fun _ => []) (fun _ => false) := ⟨fun _ _ => rfl, fun _ _ => rfl⟩
theorem has_append (l m : List En) (r : Int) : has (l ++ m) r = (has l r || has m r) := by unfold has; exact List.any_append
theorem RL.lock {l : List En} {hs : Nat → List Int} {ks : Nat → Bool} (h : RL l hs ks) (t r : Nat) : RL (l ++ [((t : Int), (r : Int))]) (upH hs t (hs t ++ [(r : Int)])) (upK ks r true) := by
  refine ⟨fun i hi => ?_, fun i hi => ?_⟩
  · unfold upH
    rw [held_append, held_one]
    by_cases e : i = t
    · subst e; rw [if_pos rfl, if_pos rfl, h.h i hi]
    · rw [if_neg e, if_neg (show ¬ ((t : Int) = (i : Int)) by omega), h.h i hi]; simp
  · unfold upK
    rw [has_append, ← h.k i hi]
    by_cases e : i = r
    · subst e; rw [if_pos rfl]; simp [has]
    · rw [if_neg e]
      have : ((r : Int) == (i : Int)) = false := by simp; omega
      simp [has, this]
theorem nodup_cut {l : List En} {i : Nat} (hi : i < l.length) (nd : (l.map (·.2)).Nodup) : ∀ e ∈ cut l i, e.2 ≠ (l.getD i e0).2 := by
  have hs := split l i hi
  have nd2 : ((l.take i ++ (l.getD i e0 :: l.drop (i + 1))).map (·.2)).Nodup := by rw [← hs]; exact nd
  rw [List.map_append, List.map_cons] at nd2
  rw [List.nodup_append, List.nodup_cons] at nd2
  obtain ⟨_, ⟨n1, _⟩, n2⟩ := nd2
  intro e he q
  unfold cut at he
  rcases List.mem_append.mp he with h | h
  · exact n2 e.2 (List.mem_map.mpr ⟨e, h, rfl⟩) _ List.mem_cons_self q
  · exact n1 (List.mem_map.mpr ⟨e, h, q⟩)
theorem has_cut {l : List En} {i : Nat} (hi : i < l.length) (nd : (l.map (·.2)).Nodup) (r : Int) : has (cut l i) r = if r = (l.getD i e0).2 then false else has l r := by
  by_cases e : r = (l.getD i e0).2
  · rw [if_pos e]
    cases hh : has (cut l i) r with
    | false => rfl
    | true =>
      unfold has at hh
      simp only [List.any_eq_true, beq_iff_eq] at hh
      obtain ⟨x, hx, q⟩ := hh
      exact absurd (q.trans e) (nodup_cut hi nd x hx)
  · rw [if_neg e]
    have hs : has l r = has (l.take i ++ (l.getD i e0 :: l.drop (i + 1))) r := congrArg (has · r) (split l i hi)
    rw [hs]
    unfold cut
    rw [has_append, has_append, show l.getD i e0 :: l.drop (i + 1) = [l.getD i e0] ++ l.drop (i + 1) from rfl, has_append]
    have : has [l.getD i e0] r = false := by
      simp only [has, List.any_cons, List.any_nil, Bool.or_false]
      simpa using fun q => e q.symm
    rw [this]
    simp
theorem RL.unl {l : List En} {hs : Nat → List Int} {ks : Nat → Bool} {t x i : Nat} (h : RL l hs ks) (ht : t < 4) (ok : Ok 4 l) (hi : i < l.length) (h1 : (l.getD i e0).1 = (t : Int)) (h2 : (l.getD i e0).2 = (x : Int)) (h3 : held l (t : Int) = held (cut l i) (t : Int) ++ [(x : Int)]) {p : Nat} (hp : (hs t).length = p + 1) :
    RL (cut l i) (upH hs t ((hs t).take p)) (upK ks x false) := by
  refine ⟨fun j hj => ?_, fun r hr => ?_⟩
  · unfold upH
    by_cases e : j = t
    · subst e
      rw [if_pos rfl]
      have e1 := h.h j hj
      rw [h3] at e1
      rw [e1]
      have : (held (cut l i) (j : Int)).length = p := by rw [e1, List.length_append] at hp; simpa using hp
      rw [← this]
      exact List.take_left
    · rw [if_neg e, h.h j hj]
      exact (held_other hi h1 (by omega)).symm
  · unfold upK
    rw [has_cut hi ok.nd, h2]
    by_cases e : r = x
    · subst e; rw [if_pos rfl, if_pos rfl]
    · rw [if_neg e, if_neg (by omega), h.k r hr]
theorem has_drp {l : List En} {t : Int} (nd : (l.map (·.2)).Nodup) (r : Int) : has (drp l t) r = (has l r && !decide (r ∈ held l t)) := by
  rw [Bool.eq_iff_iff]
  simp only [Bool.and_eq_true, Bool.not_eq_true', decide_eq_false_iff_not]
  unfold has drp
  simp only [List.any_eq_true, List.mem_filter, beq_iff_eq, Bool.not_eq_true', beq_eq_false_iff_ne]
  constructor
  · rintro ⟨x, ⟨hx, hxt⟩, hr⟩
    refine ⟨⟨x, hx, hr⟩, fun hm => ?_⟩
    have h2 := held_mem.mp hm
    have : x = (t, r) := by
      obtain ⟨i, hi, rfl⟩ := List.mem_iff_getElem.mp hx
      obtain ⟨j, hj, e⟩ := List.mem_iff_getElem.mp h2
      have h3 : (l.map (·.2))[i]'(by simpa using hi) = (l.map (·.2))[j]'(by simpa using hj) := by simp [e, hr]
      have h4 : i = j := by
        have hp := List.pairwise_iff_getElem.mp nd
        rcases Nat.lt_trichotomy i j with q | q | q
        · exact absurd h3 (hp i j (by simpa using hi) (by simpa using hj) q)
        · exact q
        · exact absurd h3.symm (hp j i (by simpa using hj) (by simpa using hi) q)
      subst h4
      exact e
    rw [this] at hxt
    exact hxt rfl
  · rintro ⟨⟨x, hx, hr⟩, hm⟩
    refine ⟨x, ⟨hx, fun q => hm ?_⟩, hr⟩
    rw [held_mem, ← q, ← hr]
    exact hx
/-- the bools behind j of the numbers -/
def ksN (ks : Nat → Bool) (xs : List Int) (j : Nat) : Nat → Bool := fun r => if (r : Int) ∈ xs.take j then false else ks r
theorem ksN_zero (ks : Nat → Bool) (xs : List Int) : ksN ks xs 0 = ks := by funext r; unfold ksN; simp
theorem ksN_succ (ks : Nat → Bool) (xs : List Int) {j x : Nat} (h : j < xs.length) (hx : xs.getD j 0 = (x : Int)) : upK (ksN ks xs j) x false = ksN ks xs (j + 1) := by
  funext r
  unfold upK ksN
  have ht : xs.take (j + 1) = xs.take j ++ [(x : Int)] := by
    rw [List.take_add_one, List.getElem?_eq_getElem h]
    rw [List.getD_eq_getElem?_getD, List.getElem?_eq_getElem h] at hx
    have hx' : xs[j] = (x : Int) := hx
    rw [hx']
    rfl
  rw [ht]
  have hm : (r : Int) ∈ xs.take j ++ [(x : Int)] ↔ (r : Int) ∈ xs.take j ∨ r = x := by
    rw [List.mem_append, List.mem_singleton]
    constructor
    · rintro (q | q)
      · exact Or.inl q
      · exact Or.inr (by omega)
    · rintro (q | q)
      · exact Or.inl q
      · exact Or.inr (by omega)
  by_cases e : r = x
  · rw [if_pos e, if_pos (hm.mpr (Or.inr e))]
  · rw [if_neg e]
    by_cases e2 : (r : Int) ∈ xs.take j
    · rw [if_pos e2, if_pos (hm.mpr (Or.inl e2))]
    · rw [if_neg e2, if_neg (fun q => (hm.mp q).elim e2 e)]
theorem RL.drop {l : List En} {hs : Nat → List Int} {ks : Nat → Bool} {t : Nat} (h : RL l hs ks) (ok : Ok 4 l) : RL (drp l (t : Int)) (upH hs t []) (ksN ks (held l (t : Int)).reverse (held l (t : Int)).reverse.length) := by
  refine ⟨fun j hj => ?_, fun r hr => ?_⟩
  · unfold upH
    rw [held_drp]
    by_cases e : j = t
    · subst e; rw [if_pos rfl, if_pos rfl]
    · rw [if_neg e, if_neg (by omega), h.h j hj]
  · unfold ksN
    rw [has_drp ok.nd, List.take_length, h.k r hr]
    by_cases e : (r : Int) ∈ held l (t : Int)
    · rw [if_pos (List.mem_reverse.mpr e)]; simp [e]
    · rw [if_neg (fun q => e (List.mem_reverse.mp q))]; simp [e]
def hsum (l : List En) : Nat → Nat
  | 0 => 0
  | k + 1 => hsum l k + (held l (k : Int)).length
theorem hsum_le {l : List En} (h : H4 l) : ∀ k, hsum l k ≤ k * 4
  | 0 => Nat.le_refl _
  | k + 1 => by unfold hsum; have := hsum_le h k; have := h (k : Int); omega
theorem hsum4 {l : List En} (h : Ok 4 l) : hsum l 4 = l.length := by
  have := held_sum h.ts
  change 0 + (held l (0 : Int)).length + (held l (1 : Int)).length + (held l (2 : Int)).length + (held l (3 : Int)).length = l.length
  omega
theorem drop_at {xs : List Int} {k : Nat} (h : k < xs.length) : xs.reverse.getD k 0 = xs.getD (xs.length - 1 - k) 0 := by
  rw [List.getD_eq_getElem?_getD, List.getD_eq_getElem?_getD, List.getElem?_reverse h]
set_option maxRecDepth 100000 in
set_option maxHeartbeats 16000000 in
theorem once_any {w : World} {v u : Value} {nt n : Nat} {zt d : Nat → Nat → Int} (ht : TK w v nt zt) (hd : DS w u n d) : Calls Try.prog 4 #[v, u] w (TrueB w) := by
  obtain ⟨a, cap, rfl, hn1, hn2⟩ := hd.slice
  obtain ⟨va, vcap, rfl, hv1, hv2⟩ := ht.slice
  have hmx : n ≤ 9223372036854775807 := by unfold maxLen at hn2; omega
  have HD := Lib.hid hd
  have HT0 := Lib.hid ht
  clear ht hd
  go_enter Try.func4, Try.ntmps4
  go_wp2_with fail
  refine (works_any w).mono ?_
  rintro e w0 ⟨rfl, hb0⟩
  have HB0 := Lib.hid hb0
  have H0 := Lib.hid (four_any (HT0.out.below hb0))
  clear hb0 HT0
  go_wp2_with fail
  refine H0.out.mono ?_
  rintro e w1 ⟨tv, z, rfl, htk, hb1⟩
  have HT := Lib.hid htk
  have HB1 := Lib.hid (chn HB0.out hb1)
  obtain ⟨ta, tcap, rfl, ht1, ht2⟩ := htk.slice
  clear htk hb1 H0 HB0
  go_wp2_with fail
  refine (ss_new HT.out (by decide)).mono ?_
  rintro e w2 ⟨sb, rfl, hs⟩
  have HO := Lib.hid (OC.new hs)
  clear hs
  go_wp2_with fail
  generalize (w2.alloc (.cells #[.slice none 0 0, .slice none 0 0, .slice none 0 0, .slice none 0 0] 41)).alloc (.cells #[.bool false, .bool false, .bool false, .bool false, .bool false, .bool false, .bool false, .bool false] 42) = w3 at *
  obtain ⟨kb, hkb⟩ : ∃ kb, w2.heap.size + 1 = kb := ⟨_, rfl⟩
  obtain ⟨rb, hrb⟩ : ∃ rb, w2.heap.size = rb := ⟨_, rfl⟩
  rw [hkb, hrb] at HO
  rw [hrb] at hkb
  simp only [hrb, hkb]
  clear hkb hrb
  go_loopw [9] (fun i wr => ∃ (k : Nat) (l : List En) (hs : Nat → List Int) (ks : Nat → Bool), k ≤ n ∧ i = .int .i64 k ∧ Hid (OC w1.heap.size w1 wr sb rb kb z l hs ks) ∧ Hid (RL l hs ks)) (fun i _ => n - (intOf i).toNat)
  case atStart => exact ⟨0, [], _, _, Nat.zero_le _, rfl, HO.out, RL.start⟩
  case round =>
    clear HO
    obtain ⟨k, l, hs, ks, hk, rfl, HO, HR⟩ := hrel
    by_cases hlt : k < n
    · by_cases h150 : k < 150
      · have HBr := Lib.hid (HB1.out.trans (HO.out.bel.mono HB1.out.size))
        obtain ⟨b, off, rfl, d0, d1, d2⟩ := (HD.out.below HBr.out).at hlt
        obtain ⟨t, ht, t4⟩ : ∃ t : Nat, bring (d k 1) 4 = t ∧ t < 4 := by have := bring_range (d k 1) (n := 4) (by decide); exact ⟨(bring (d k 1) 4).toNat, by omega, by omega⟩
        obtain ⟨r, hr, r8⟩ : ∃ r : Nat, bring (d k 2) 8 = r ∧ r < 8 := by have := bring_range (d k 2) (n := 8) (by decide); exact ⟨(bring (d k 2) 8).toNat, by omega, by omega⟩
        obtain ⟨q, hq, q0, q4⟩ : ∃ q, bring (d k 0) 3 = q ∧ 0 ≤ q ∧ q < 3 := ⟨_, rfl, bring_range _ (by decide)⟩
        have HQ0 := Lib.hid hq
        have HQ1 := Lib.hid ht
        have HQ2 := Lib.hid hr
        have hqc : q = 0 ∨ q = 1 ∨ q = 2 := by omega
        have hk0 : (0 : Int) ≤ k := by omega
        have hkI : (k : Int) < (n : Int) := by omega
        have hk1 : decide ((k : Int) < 150) = true := by simp; omega
        have hkt0 : (0 : Int) ≤ t := by omega
        have hkt4 : (t : Int) < 4 := by omega
        have hkr0 : (0 : Int) ≤ r := by omega
        have hkr8 : (r : Int) < 8 := by omega
        generalize d k 0 = y0 at *
        generalize d k 1 = y1 at *
        generalize d k 2 = y2 at *
        clear hq ht hr q0 q4
        go_wp2_with fail
        go_quiet ((go_at_call 13; exact Calls.quiet_of_same (bring_q _ _ (by omega) (by omega) _)))
        rw [HQ1.out, HQ2.out]
        rename_i nq _
        have hBy : Below wr.heap.size wr (wr.drewN nq) := below_drewN (Below.refl _ _) _
        have d0 := (hBy.cell (lt_of_cell d0)).trans d0
        have HOy := Lib.hid (HO.out.below hBy)
        have HTy := Lib.hid (HT.out.below HOy.out.bel)
        clear d1 d2 HO HBr hBy
        generalize wr.drewN nq = wy at *
        go_wp2_with fail
        refine (bring_any y0 3 wy (by decide) (by decide)).mono ?_
        rintro e w4 ⟨rfl, rfl⟩
        rw [HQ0.out]
        clear d0 HQ0 HQ1 HQ2
        rcases hqc with rfl | rfl | rfl
        · obtain ⟨ra, rc, c1, _, _⟩ := HOy.out.row t4
          obtain ⟨c2, _⟩ := HOy.out.bit r8
          rw [HR.out.h t t4] at c1
          rw [HR.out.k r r8] at c2
          have HU := Lib.hid (uses_any HTy.out (t : Int) (r : Int))
          have hm4 := HOy.out.ok.2 (t : Int)
          obtain ⟨m, hm⟩ : ∃ m, m = (held l (t : Int)).length := ⟨_, rfl⟩
          have HHm := Lib.hid hm
          rw [← hm] at c1 hm4
          obtain ⟨uu, hu⟩ : ∃ uu, us 4 (lo z) (r : Int) (t : Int) = uu := ⟨_, rfl⟩
          obtain ⟨hh, hhe⟩ : ∃ hh, has l (r : Int) = hh := ⟨_, rfl⟩
          rw [hu] at HU
          rw [hhe] at c2
          have HUU := Lib.hid hu
          have HHH := Lib.hid hhe
          have hin : (0 : Int) ≤ (t : Int) ∧ (t : Int) < ((4 : Nat) : Int) := ⟨hkt0, by omega⟩
          have HLE : Hid (lockE 4 uu l (t : Int) (r : Int) = if uu then (if hh then 131 else if (held l (t : Int)).length = 4 then 130 else 0) else 133) := by rw [← hhe]; exact if_pos hin
          clear hu hhe hm hin
          cases uu with
          | false =>
            have HE : Hid (lockE 4 (us 4 (lo z) (r : Int) (t : Int)) l (t : Int) (r : Int) = 133 ∧ lockL 4 (us 4 (lo z) (r : Int) (t : Int)) l (t : Int) (r : Int) = l) := by
              have e1 : lockE 4 (us 4 (lo z) (r : Int) (t : Int)) l (t : Int) (r : Int) = 133 := by rw [HUU.out, HLE.out]; rfl
              exact ⟨e1, by unfold lockL; rw [e1]; rfl⟩
            clear HLE
            go_wp2_with fail
            refine HU.out.mono ?_
            rintro e w5 ⟨rfl, rfl⟩
            go_wp2_with fail
            refine (oc_lock HOy.out (t : Int) (r : Int) HE.out.1 HE.out.2).mono ?_
            rintro e w5 ⟨rfl, ho⟩
            obtain ⟨l2, hl2⟩ : ∃ l2, l2 = l := ⟨_, rfl⟩
            obtain ⟨hs2, hh2⟩ : ∃ hs2, hs2 = hs := ⟨_, rfl⟩
            obtain ⟨ks2, hk2⟩ : ∃ ks2, ks2 = ks := ⟨_, rfl⟩
            have HO5 : Hid (OC w1.heap.size w1 w5 sb rb kb z l2 hs2 ks2) := by rw [hl2, hh2, hk2]; exact ho
            have HR5 : Hid (RL l2 hs2 ks2) := by rw [hl2, hh2, hk2]; exact HR.out
            clear ho hl2 hh2 hk2 HOy HR HTy HU HE HUU HHH HHm c1 c2
            go_wp2_with fail
            go_loopw [19, 20] (fun nv i wi => ∃ j : Nat, j ≤ 4 ∧ i = .int .i64 j ∧ nv = .int .i64 (hsum l2 j : Nat) ∧ Hid (Below w5.heap.size w5 wi)) (fun _ i _ => 4 - (intOf i).toNat)
            case atStart => exact ⟨0, by omega, rfl, rfl, Below.refl _ _⟩
            case round =>
              obtain ⟨j, hj, rfl, rfl, HBi⟩ := hrel
              have HOi := Lib.hid (HO5.out.below HBi.out)
              by_cases hj4 : j < 4
              · obtain ⟨ra, rc, c1, _, his⟩ := HOi.out.row hj4
                rw [HR5.out.h j hj4] at c1 his
                have HIS := Lib.hid his
                have hs1 : hsum l2 (j + 1) = hsum l2 j + (held l2 (j : Int)).length := rfl
                have hs2 := hsum_le HOi.out.ok.2 (j + 1)
                have hs3 := HOi.out.ok.2 (j : Int)
                obtain ⟨m, hm⟩ : ∃ m, m = (held l2 (j : Int)).length := ⟨_, rfl⟩
                have HHm := Lib.hid hm
                have HHD := Lib.hid (fun W (q : Below wr.heap.size wr W) => ss_held (HOi.out.ss.below q) (j : Int) rfl)
                rw [← hm] at c1 HIS hs1 hs3
                obtain ⟨S, hS⟩ : ∃ S, hsum l2 j = S := ⟨_, rfl⟩
                obtain ⟨S2, hS2⟩ : ∃ S2, hsum l2 (j + 1) = S2 := ⟨_, rfl⟩
                rw [hS, hS2] at hs1
                have HS2 := Lib.hid hS2
                have HSM : Hid ((S : Int) + (m : Int) = (S2 : Int)) := by unfold Hid; omega
                have hS100 : S ≤ 100 := by omega
                have hm100 : m ≤ 4 := by omega
                have hj0 : (0 : Int) ≤ j := by omega
                have hjI : (j : Int) < 4 := by omega
                rw [hS]
                clear his hm hS hS2 hs1 hs2 hs3
                have mixed : Try.prog.follows .mixedOrders = true := by kernel_rfl
                go_wp2_with fail
                have HS0 := Lib.hid (And.intro c1 (Below.refl wr.heap.size wr))
                go_region_held3 (fun w' => w'.cell? ⟨rb, j, none⟩ = some (.slice ra m rc) ∧ Below wr.heap.size wr w')
                  (first | assumption | exact HS0.out | exact ⟨HS0.out.1, HS0.out.2.drew⟩ | go_keep)
                  (first | (go_at_call 19; refine (HHD.out _ (by first | exact Below.refl _ _ | exact (Below.refl _ _).drew)).mono ?_; rintro e w6 ⟨rv, rfl, hr, hb6⟩; have HR6 := Lib.hid hr.is; have HB6 := Lib.hid (show Below wr.heap.size wr w6 from chn (Below.drew (Below.refl _ _)) hb6); have hS6 : w6.cell? ⟨rb, j, none⟩ = some (.slice ra m rc) ∧ Below wr.heap.size wr w6 := ⟨(HB6.out.cell (lt_of_cell c1)).trans c1, HB6.out⟩)
                         | (go_at_call 18; refine (eqs_any HR6.out (HIS.out.below HB6.out) (by rw [← HHm.out]; omega)).mono ?_; rintro e w7 ⟨rfl, hb7⟩; have HB7 := Lib.hid (chn HB6.out hb7); have hS7 : w7.cell? ⟨rb, j, none⟩ = some (.slice ra m rc) ∧ Below wr.heap.size wr w7 := ⟨(HB7.out.cell (lt_of_cell c1)).trans c1, HB7.out⟩))
                all_goals
                  have c1 := hS7.1
                  have HB8 := Lib.hid (HBi.out.trans (HB7.out.mono HBi.out.size))
                  clear HS0 hr hb6 hS6 HHD HR6 HB6 hb7 hS7 HB7
                  go_wp2_with fail
                  go_roundw
                  case rel => exact ⟨j + 1, by omega, by go_num, by rw [HS2.out, HSM.out], HB8.out⟩
                  case measure => simp [intOf]; omega
              · obtain rfl : j = 4 := by omega
                have HLN := Lib.hid (ss_len HOi.out.ss)
                have HSL := Lib.hid (hsum4 HOi.out.ok.1)
                rw [← HSL.out] at HLN
                go_wp2_with fail
                refine HLN.out.mono ?_
                rintro e w6 ⟨rfl, hb6⟩
                have HB6 := Lib.hid hb6
                clear hb6 HLN HSL
                go_wp2_with fail
                go_roundw
                case rel => exact ⟨k + 1, l2, hs2, ks2, by omega, by go_num, HOi.out.below HB6.out, HR5.out⟩
                case measure => simp [intOf]; omega
          | true =>
            cases hh with
            | true =>
              have HE : Hid (lockE 4 (us 4 (lo z) (r : Int) (t : Int)) l (t : Int) (r : Int) = 131 ∧ lockL 4 (us 4 (lo z) (r : Int) (t : Int)) l (t : Int) (r : Int) = l) := by
                have e1 : lockE 4 (us 4 (lo z) (r : Int) (t : Int)) l (t : Int) (r : Int) = 131 := by rw [HUU.out, HLE.out]; rfl
                exact ⟨e1, by unfold lockL; rw [e1]; rfl⟩
              clear HLE
              go_wp2_with fail
              refine HU.out.mono ?_
              rintro e w5 ⟨rfl, rfl⟩
              go_wp2_with fail
              refine (oc_lock HOy.out (t : Int) (r : Int) HE.out.1 HE.out.2).mono ?_
              rintro e w5 ⟨rfl, ho⟩
              obtain ⟨l2, hl2⟩ : ∃ l2, l2 = l := ⟨_, rfl⟩
              obtain ⟨hs2, hh2⟩ : ∃ hs2, hs2 = hs := ⟨_, rfl⟩
              obtain ⟨ks2, hk2⟩ : ∃ ks2, ks2 = ks := ⟨_, rfl⟩
              have HO5 : Hid (OC w1.heap.size w1 w5 sb rb kb z l2 hs2 ks2) := by rw [hl2, hh2, hk2]; exact ho
              have HR5 : Hid (RL l2 hs2 ks2) := by rw [hl2, hh2, hk2]; exact HR.out
              clear ho hl2 hh2 hk2 HOy HR HTy HU HE HUU HHH HHm c1 c2
              go_wp2_with fail
              go_loopw [19, 20] (fun nv i wi => ∃ j : Nat, j ≤ 4 ∧ i = .int .i64 j ∧ nv = .int .i64 (hsum l2 j : Nat) ∧ Hid (Below w5.heap.size w5 wi)) (fun _ i _ => 4 - (intOf i).toNat)
              case atStart => exact ⟨0, by omega, rfl, rfl, Below.refl _ _⟩
              case round =>
                obtain ⟨j, hj, rfl, rfl, HBi⟩ := hrel
                have HOi := Lib.hid (HO5.out.below HBi.out)
                by_cases hj4 : j < 4
                · obtain ⟨ra, rc, c1, _, his⟩ := HOi.out.row hj4
                  rw [HR5.out.h j hj4] at c1 his
                  have HIS := Lib.hid his
                  have hs1 : hsum l2 (j + 1) = hsum l2 j + (held l2 (j : Int)).length := rfl
                  have hs2 := hsum_le HOi.out.ok.2 (j + 1)
                  have hs3 := HOi.out.ok.2 (j : Int)
                  obtain ⟨m, hm⟩ : ∃ m, m = (held l2 (j : Int)).length := ⟨_, rfl⟩
                  have HHm := Lib.hid hm
                  have HHD := Lib.hid (fun W (q : Below wr.heap.size wr W) => ss_held (HOi.out.ss.below q) (j : Int) rfl)
                  rw [← hm] at c1 HIS hs1 hs3
                  obtain ⟨S, hS⟩ : ∃ S, hsum l2 j = S := ⟨_, rfl⟩
                  obtain ⟨S2, hS2⟩ : ∃ S2, hsum l2 (j + 1) = S2 := ⟨_, rfl⟩
                  rw [hS, hS2] at hs1
                  have HS2 := Lib.hid hS2
                  have HSM : Hid ((S : Int) + (m : Int) = (S2 : Int)) := by unfold Hid; omega
                  have hS100 : S ≤ 100 := by omega
                  have hm100 : m ≤ 4 := by omega
                  have hj0 : (0 : Int) ≤ j := by omega
                  have hjI : (j : Int) < 4 := by omega
                  rw [hS]
                  clear his hm hS hS2 hs1 hs2 hs3
                  have mixed : Try.prog.follows .mixedOrders = true := by kernel_rfl
                  go_wp2_with fail
                  have HS0 := Lib.hid (And.intro c1 (Below.refl wr.heap.size wr))
                  go_region_held3 (fun w' => w'.cell? ⟨rb, j, none⟩ = some (.slice ra m rc) ∧ Below wr.heap.size wr w')
                    (first | assumption | exact HS0.out | exact ⟨HS0.out.1, HS0.out.2.drew⟩ | go_keep)
                    (first | (go_at_call 19; refine (HHD.out _ (by first | exact Below.refl _ _ | exact (Below.refl _ _).drew)).mono ?_; rintro e w6 ⟨rv, rfl, hr, hb6⟩; have HR6 := Lib.hid hr.is; have HB6 := Lib.hid (show Below wr.heap.size wr w6 from chn (Below.drew (Below.refl _ _)) hb6); have hS6 : w6.cell? ⟨rb, j, none⟩ = some (.slice ra m rc) ∧ Below wr.heap.size wr w6 := ⟨(HB6.out.cell (lt_of_cell c1)).trans c1, HB6.out⟩)
                           | (go_at_call 18; refine (eqs_any HR6.out (HIS.out.below HB6.out) (by rw [← HHm.out]; omega)).mono ?_; rintro e w7 ⟨rfl, hb7⟩; have HB7 := Lib.hid (chn HB6.out hb7); have hS7 : w7.cell? ⟨rb, j, none⟩ = some (.slice ra m rc) ∧ Below wr.heap.size wr w7 := ⟨(HB7.out.cell (lt_of_cell c1)).trans c1, HB7.out⟩))
                  all_goals
                    have c1 := hS7.1
                    have HB8 := Lib.hid (HBi.out.trans (HB7.out.mono HBi.out.size))
                    clear HS0 hr hb6 hS6 HHD HR6 HB6 hb7 hS7 HB7
                    go_wp2_with fail
                    go_roundw
                    case rel => exact ⟨j + 1, by omega, by go_num, by rw [HS2.out, HSM.out], HB8.out⟩
                    case measure => simp [intOf]; omega
                · obtain rfl : j = 4 := by omega
                  have HLN := Lib.hid (ss_len HOi.out.ss)
                  have HSL := Lib.hid (hsum4 HOi.out.ok.1)
                  rw [← HSL.out] at HLN
                  go_wp2_with fail
                  refine HLN.out.mono ?_
                  rintro e w6 ⟨rfl, hb6⟩
                  have HB6 := Lib.hid hb6
                  clear hb6 HLN HSL
                  go_wp2_with fail
                  go_roundw
                  case rel => exact ⟨k + 1, l2, hs2, ks2, by omega, by go_num, HOi.out.below HB6.out, HR5.out⟩
                  case measure => simp [intOf]; omega
            | false =>
              by_cases hm4b : m = 4
              · subst hm4b
                have HE : Hid (lockE 4 (us 4 (lo z) (r : Int) (t : Int)) l (t : Int) (r : Int) = 130 ∧ lockL 4 (us 4 (lo z) (r : Int) (t : Int)) l (t : Int) (r : Int) = l) := by
                  have e1 : lockE 4 (us 4 (lo z) (r : Int) (t : Int)) l (t : Int) (r : Int) = 130 := by rw [HUU.out, HLE.out]; rw [← HHm.out]; rfl
                  exact ⟨e1, by unfold lockL; rw [e1]; rfl⟩
                clear HLE
                go_wp2_with fail
                refine HU.out.mono ?_
                rintro e w5 ⟨rfl, rfl⟩
                go_wp2_with fail
                refine (oc_lock HOy.out (t : Int) (r : Int) HE.out.1 HE.out.2).mono ?_
                rintro e w5 ⟨rfl, ho⟩
                obtain ⟨l2, hl2⟩ : ∃ l2, l2 = l := ⟨_, rfl⟩
                obtain ⟨hs2, hh2⟩ : ∃ hs2, hs2 = hs := ⟨_, rfl⟩
                obtain ⟨ks2, hk2⟩ : ∃ ks2, ks2 = ks := ⟨_, rfl⟩
                have HO5 : Hid (OC w1.heap.size w1 w5 sb rb kb z l2 hs2 ks2) := by rw [hl2, hh2, hk2]; exact ho
                have HR5 : Hid (RL l2 hs2 ks2) := by rw [hl2, hh2, hk2]; exact HR.out
                clear ho hl2 hh2 hk2 HOy HR HTy HU HE HUU HHH HHm c1 c2
                go_wp2_with fail
                go_loopw [19, 20] (fun nv i wi => ∃ j : Nat, j ≤ 4 ∧ i = .int .i64 j ∧ nv = .int .i64 (hsum l2 j : Nat) ∧ Hid (Below w5.heap.size w5 wi)) (fun _ i _ => 4 - (intOf i).toNat)
                case atStart => exact ⟨0, by omega, rfl, rfl, Below.refl _ _⟩
                case round =>
                  obtain ⟨j, hj, rfl, rfl, HBi⟩ := hrel
                  have HOi := Lib.hid (HO5.out.below HBi.out)
                  by_cases hj4 : j < 4
                  · obtain ⟨ra, rc, c1, _, his⟩ := HOi.out.row hj4
                    rw [HR5.out.h j hj4] at c1 his
                    have HIS := Lib.hid his
                    have hs1 : hsum l2 (j + 1) = hsum l2 j + (held l2 (j : Int)).length := rfl
                    have hs2 := hsum_le HOi.out.ok.2 (j + 1)
                    have hs3 := HOi.out.ok.2 (j : Int)
                    obtain ⟨m, hm⟩ : ∃ m, m = (held l2 (j : Int)).length := ⟨_, rfl⟩
                    have HHm := Lib.hid hm
                    have HHD := Lib.hid (fun W (q : Below wr.heap.size wr W) => ss_held (HOi.out.ss.below q) (j : Int) rfl)
                    rw [← hm] at c1 HIS hs1 hs3
                    obtain ⟨S, hS⟩ : ∃ S, hsum l2 j = S := ⟨_, rfl⟩
                    obtain ⟨S2, hS2⟩ : ∃ S2, hsum l2 (j + 1) = S2 := ⟨_, rfl⟩
                    rw [hS, hS2] at hs1
                    have HS2 := Lib.hid hS2
                    have HSM : Hid ((S : Int) + (m : Int) = (S2 : Int)) := by unfold Hid; omega
                    have hS100 : S ≤ 100 := by omega
                    have hm100 : m ≤ 4 := by omega
                    have hj0 : (0 : Int) ≤ j := by omega
                    have hjI : (j : Int) < 4 := by omega
                    rw [hS]
                    clear his hm hS hS2 hs1 hs2 hs3
                    have mixed : Try.prog.follows .mixedOrders = true := by kernel_rfl
                    go_wp2_with fail
                    have HS0 := Lib.hid (And.intro c1 (Below.refl wr.heap.size wr))
                    go_region_held3 (fun w' => w'.cell? ⟨rb, j, none⟩ = some (.slice ra m rc) ∧ Below wr.heap.size wr w')
                      (first | assumption | exact HS0.out | exact ⟨HS0.out.1, HS0.out.2.drew⟩ | go_keep)
                      (first | (go_at_call 19; refine (HHD.out _ (by first | exact Below.refl _ _ | exact (Below.refl _ _).drew)).mono ?_; rintro e w6 ⟨rv, rfl, hr, hb6⟩; have HR6 := Lib.hid hr.is; have HB6 := Lib.hid (show Below wr.heap.size wr w6 from chn (Below.drew (Below.refl _ _)) hb6); have hS6 : w6.cell? ⟨rb, j, none⟩ = some (.slice ra m rc) ∧ Below wr.heap.size wr w6 := ⟨(HB6.out.cell (lt_of_cell c1)).trans c1, HB6.out⟩)
                             | (go_at_call 18; refine (eqs_any HR6.out (HIS.out.below HB6.out) (by rw [← HHm.out]; omega)).mono ?_; rintro e w7 ⟨rfl, hb7⟩; have HB7 := Lib.hid (chn HB6.out hb7); have hS7 : w7.cell? ⟨rb, j, none⟩ = some (.slice ra m rc) ∧ Below wr.heap.size wr w7 := ⟨(HB7.out.cell (lt_of_cell c1)).trans c1, HB7.out⟩))
                    all_goals
                      have c1 := hS7.1
                      have HB8 := Lib.hid (HBi.out.trans (HB7.out.mono HBi.out.size))
                      clear HS0 hr hb6 hS6 HHD HR6 HB6 hb7 hS7 HB7
                      go_wp2_with fail
                      go_roundw
                      case rel => exact ⟨j + 1, by omega, by go_num, by rw [HS2.out, HSM.out], HB8.out⟩
                      case measure => simp [intOf]; omega
                  · obtain rfl : j = 4 := by omega
                    have HLN := Lib.hid (ss_len HOi.out.ss)
                    have HSL := Lib.hid (hsum4 HOi.out.ok.1)
                    rw [← HSL.out] at HLN
                    go_wp2_with fail
                    refine HLN.out.mono ?_
                    rintro e w6 ⟨rfl, hb6⟩
                    have HB6 := Lib.hid hb6
                    clear hb6 HLN HSL
                    go_wp2_with fail
                    go_roundw
                    case rel => exact ⟨k + 1, l2, hs2, ks2, by omega, by go_num, HOi.out.below HB6.out, HR5.out⟩
                    case measure => simp [intOf]; omega
              · have hml : m < 4 := by omega
                have hm3 : (hs t).length < 4 := by rw [HR.out.h t t4, ← HHm.out]; exact hml
                have hmI : decide ((m : Int) < 4) = true := by simp; omega
                have HE : Hid (lockE 4 (us 4 (lo z) (r : Int) (t : Int)) l (t : Int) (r : Int) = 0 ∧ lockL 4 (us 4 (lo z) (r : Int) (t : Int)) l (t : Int) (r : Int) = l ++ [((t : Int), (r : Int))]) := by
                  have e1 : lockE 4 (us 4 (lo z) (r : Int) (t : Int)) l (t : Int) (r : Int) = 0 := by rw [HUU.out, HLE.out, if_pos rfl, if_neg (by decide), if_neg (by rw [← HHm.out]; exact hm4b)]
                  exact ⟨e1, by unfold lockL; rw [e1]; rfl⟩
                clear HLE
                go_wp2_with fail
                refine HU.out.mono ?_
                rintro e w5 ⟨rfl, rfl⟩
                go_wp2_with fail
                refine (oc_lock HOy.out (t : Int) (r : Int) HE.out.1 HE.out.2).mono ?_
                rintro e w5 ⟨rfl, ho⟩
                obtain ⟨s1, s2⟩ := ho.bit r8
                have HO5 := Lib.hid (ho.setK r8 true)
                obtain ⟨ra, rc, va, vc, w6, e1, hrun, e2, e3, ho6⟩ := HO5.out.app t4 hm3 (r : Int) 40
                obtain ⟨M, hM⟩ : ∃ M, (hs t).length = M := ⟨_, rfl⟩
                rw [hM] at e1 hrun e2 ho6
                obtain ⟨l2, hl2⟩ : ∃ l2, l2 = l ++ [((t : Int), (r : Int))] := ⟨_, rfl⟩
                obtain ⟨hs2, hh2⟩ : ∃ hs2, hs2 = upH hs t (hs t ++ [(r : Int)]) := ⟨_, rfl⟩
                obtain ⟨ks2, hk2⟩ : ∃ ks2, ks2 = upK ks r true := ⟨_, rfl⟩
                have HR7 : Hid (RL l2 hs2 ks2) := by rw [hl2, hh2, hk2]; exact HR.out.lock t r
                rw [← hl2, ← hh2, ← hk2] at ho6
                have HO7 := Lib.hid ho6
                have HRUN := Lib.hid hrun
                clear ho HO5 hrun ho6 hM hl2 hh2 hk2 HOy HR HTy HU HE HUU HHH HHm c1 c2
                go_upto_region 31 with (fail)
                generalize w5.setCell ⟨kb, r, none⟩ (.bool true) = w5b at *
                clear s1 s2
                go_wp2_with (at_builtin; refine wpList_append_eq rfl _ _ 40 40 rfl _ _ _ _ rfl rfl HRUN.out ?_)
                generalize w6.setCell ⟨rb, t, none⟩ (.slice va (M + 1) vc) = w7 at *
                go_wp2_with fail
                go_loopw [19, 20] (fun nv i wi => ∃ j : Nat, j ≤ 4 ∧ i = .int .i64 j ∧ nv = .int .i64 (hsum l2 j : Nat) ∧ Hid (Below w7.heap.size w7 wi)) (fun _ i _ => 4 - (intOf i).toNat)
                case atStart => exact ⟨0, by omega, rfl, rfl, Below.refl _ _⟩
                case round =>
                  obtain ⟨j, hj, rfl, rfl, HBi⟩ := hrel
                  have HOi := Lib.hid (HO7.out.below HBi.out)
                  by_cases hj4 : j < 4
                  · obtain ⟨ra, rc, c1, _, his⟩ := HOi.out.row hj4
                    rw [HR7.out.h j hj4] at c1 his
                    have HIS := Lib.hid his
                    have hs1 : hsum l2 (j + 1) = hsum l2 j + (held l2 (j : Int)).length := rfl
                    have hs2 := hsum_le HOi.out.ok.2 (j + 1)
                    have hs3 := HOi.out.ok.2 (j : Int)
                    obtain ⟨m, hm⟩ : ∃ m, m = (held l2 (j : Int)).length := ⟨_, rfl⟩
                    have HHm := Lib.hid hm
                    have HHD := Lib.hid (fun W (q : Below wr.heap.size wr W) => ss_held (HOi.out.ss.below q) (j : Int) rfl)
                    rw [← hm] at c1 HIS hs1 hs3
                    obtain ⟨S, hS⟩ : ∃ S, hsum l2 j = S := ⟨_, rfl⟩
                    obtain ⟨S2, hS2⟩ : ∃ S2, hsum l2 (j + 1) = S2 := ⟨_, rfl⟩
                    rw [hS, hS2] at hs1
                    have HS2 := Lib.hid hS2
                    have HSM : Hid ((S : Int) + (m : Int) = (S2 : Int)) := by unfold Hid; omega
                    have hS100 : S ≤ 100 := by omega
                    have hm100 : m ≤ 4 := by omega
                    have hj0 : (0 : Int) ≤ j := by omega
                    have hjI : (j : Int) < 4 := by omega
                    rw [hS]
                    clear his hm hS hS2 hs1 hs2 hs3
                    have mixed : Try.prog.follows .mixedOrders = true := by kernel_rfl
                    go_wp2_with fail
                    have HS0 := Lib.hid (And.intro c1 (Below.refl wr.heap.size wr))
                    go_region_held3 (fun w' => w'.cell? ⟨rb, j, none⟩ = some (.slice ra m rc) ∧ Below wr.heap.size wr w')
                      (first | assumption | exact HS0.out | exact ⟨HS0.out.1, HS0.out.2.drew⟩ | go_keep)
                      (first | (go_at_call 19; refine (HHD.out _ (by first | exact Below.refl _ _ | exact (Below.refl _ _).drew)).mono ?_; rintro e w6 ⟨rv, rfl, hr, hb6⟩; have HR6 := Lib.hid hr.is; have HB6 := Lib.hid (show Below wr.heap.size wr w6 from chn (Below.drew (Below.refl _ _)) hb6); have hS6 : w6.cell? ⟨rb, j, none⟩ = some (.slice ra m rc) ∧ Below wr.heap.size wr w6 := ⟨(HB6.out.cell (lt_of_cell c1)).trans c1, HB6.out⟩)
                             | (go_at_call 18; refine (eqs_any HR6.out (HIS.out.below HB6.out) (by rw [← HHm.out]; omega)).mono ?_; rintro e w7 ⟨rfl, hb7⟩; have HB7 := Lib.hid (chn HB6.out hb7); have hS7 : w7.cell? ⟨rb, j, none⟩ = some (.slice ra m rc) ∧ Below wr.heap.size wr w7 := ⟨(HB7.out.cell (lt_of_cell c1)).trans c1, HB7.out⟩))
                    all_goals
                      have c1 := hS7.1
                      have HB8 := Lib.hid (HBi.out.trans (HB7.out.mono HBi.out.size))
                      clear HS0 hr hb6 hS6 HHD HR6 HB6 hb7 hS7 HB7
                      go_wp2_with fail
                      go_roundw
                      case rel => exact ⟨j + 1, by omega, by go_num, by rw [HS2.out, HSM.out], HB8.out⟩
                      case measure => simp [intOf]; omega
                  · obtain rfl : j = 4 := by omega
                    have HLN := Lib.hid (ss_len HOi.out.ss)
                    have HSL := Lib.hid (hsum4 HOi.out.ok.1)
                    rw [← HSL.out] at HLN
                    go_wp2_with fail
                    refine HLN.out.mono ?_
                    rintro e w6 ⟨rfl, hb6⟩
                    have HB6 := Lib.hid hb6
                    clear hb6 HLN HSL
                    go_wp2_with fail
                    go_roundw
                    case rel => exact ⟨k + 1, l2, hs2, ks2, by omega, by go_num, HOi.out.below HB6.out, HR7.out⟩
                    case measure => simp [intOf]; omega
        · obtain ⟨ra, rc, c1, _, his⟩ := HOy.out.row t4
          have HIS := Lib.hid his
          have hin : (0 : Int) ≤ (t : Int) ∧ (t : Int) < ((4 : Nat) : Int) := ⟨hkt0, by omega⟩
          have hHt := HR.out.h t t4
          obtain ⟨m, hm⟩ : ∃ m, (hs t).length = m := ⟨_, rfl⟩
          have HHm := Lib.hid hm
          rw [hm] at c1 HIS
          cases m with
          | zero =>
            have h0 : held l (t : Int) = [] := by rw [← hHt]; exact List.eq_nil_of_length_eq_zero hm
            have HE : Hid (unlV 4 l (t : Int) = .tuple #[.int .i64 0, .int .i64 132] ∧ unlN 4 l (t : Int) = l) := by
              have hu : unl l (t : Int) l.length = none := by
                cases hu : unl l (t : Int) l.length with
                | none => rfl
                | some i => have := held_cut hu; rw [h0] at this; simp at this
              refine ⟨?_, ?_⟩
              · unfold unlV unlR unlE; rw [if_pos hin, if_pos hin, hu]
              · unfold unlN unlL; rw [if_pos hin, hu]
            clear his hin hHt hm h0
            go_wp2_with fail
            refine (oc_unl HOy.out (t : Int) HE.out.1 HE.out.2).mono ?_
            rintro e w5 ⟨rfl, ho⟩
            obtain ⟨l2, hl2⟩ : ∃ l2, l2 = l := ⟨_, rfl⟩
            obtain ⟨hs2, hh2⟩ : ∃ hs2, hs2 = hs := ⟨_, rfl⟩
            obtain ⟨ks2, hk2⟩ : ∃ ks2, ks2 = ks := ⟨_, rfl⟩
            have HO5 : Hid (OC w1.heap.size w1 w5 sb rb kb z l2 hs2 ks2) := by rw [hl2, hh2, hk2]; exact ho
            have HR5 : Hid (RL l2 hs2 ks2) := by rw [hl2, hh2, hk2]; exact HR.out
            clear ho hl2 hh2 hk2 HOy HR HTy HE HHm c1 HIS
            go_wp2_with fail
            go_loopw [19, 20] (fun nv i wi => ∃ j : Nat, j ≤ 4 ∧ i = .int .i64 j ∧ nv = .int .i64 (hsum l2 j : Nat) ∧ Hid (Below w5.heap.size w5 wi)) (fun _ i _ => 4 - (intOf i).toNat)
            case atStart => exact ⟨0, by omega, rfl, rfl, Below.refl _ _⟩
            case round =>
              obtain ⟨j, hj, rfl, rfl, HBi⟩ := hrel
              have HOi := Lib.hid (HO5.out.below HBi.out)
              by_cases hj4 : j < 4
              · obtain ⟨ra, rc, c1, _, his⟩ := HOi.out.row hj4
                rw [HR5.out.h j hj4] at c1 his
                have HIS := Lib.hid his
                have hs1 : hsum l2 (j + 1) = hsum l2 j + (held l2 (j : Int)).length := rfl
                have hs2 := hsum_le HOi.out.ok.2 (j + 1)
                have hs3 := HOi.out.ok.2 (j : Int)
                obtain ⟨m, hm⟩ : ∃ m, m = (held l2 (j : Int)).length := ⟨_, rfl⟩
                have HHm := Lib.hid hm
                have HHD := Lib.hid (fun W (q : Below wr.heap.size wr W) => ss_held (HOi.out.ss.below q) (j : Int) rfl)
                rw [← hm] at c1 HIS hs1 hs3
                obtain ⟨S, hS⟩ : ∃ S, hsum l2 j = S := ⟨_, rfl⟩
                obtain ⟨S2, hS2⟩ : ∃ S2, hsum l2 (j + 1) = S2 := ⟨_, rfl⟩
                rw [hS, hS2] at hs1
                have HS2 := Lib.hid hS2
                have HSM : Hid ((S : Int) + (m : Int) = (S2 : Int)) := by unfold Hid; omega
                have hS100 : S ≤ 100 := by omega
                have hm100 : m ≤ 4 := by omega
                have hj0 : (0 : Int) ≤ j := by omega
                have hjI : (j : Int) < 4 := by omega
                rw [hS]
                clear his hm hS hS2 hs1 hs2 hs3
                have mixed : Try.prog.follows .mixedOrders = true := by kernel_rfl
                go_wp2_with fail
                have HS0 := Lib.hid (And.intro c1 (Below.refl wr.heap.size wr))
                go_region_held3 (fun w' => w'.cell? ⟨rb, j, none⟩ = some (.slice ra m rc) ∧ Below wr.heap.size wr w')
                  (first | assumption | exact HS0.out | exact ⟨HS0.out.1, HS0.out.2.drew⟩ | go_keep)
                  (first | (go_at_call 19; refine (HHD.out _ (by first | exact Below.refl _ _ | exact (Below.refl _ _).drew)).mono ?_; rintro e w6 ⟨rv, rfl, hr, hb6⟩; have HR6 := Lib.hid hr.is; have HB6 := Lib.hid (show Below wr.heap.size wr w6 from chn (Below.drew (Below.refl _ _)) hb6); have hS6 : w6.cell? ⟨rb, j, none⟩ = some (.slice ra m rc) ∧ Below wr.heap.size wr w6 := ⟨(HB6.out.cell (lt_of_cell c1)).trans c1, HB6.out⟩)
                         | (go_at_call 18; refine (eqs_any HR6.out (HIS.out.below HB6.out) (by rw [← HHm.out]; omega)).mono ?_; rintro e w7 ⟨rfl, hb7⟩; have HB7 := Lib.hid (chn HB6.out hb7); have hS7 : w7.cell? ⟨rb, j, none⟩ = some (.slice ra m rc) ∧ Below wr.heap.size wr w7 := ⟨(HB7.out.cell (lt_of_cell c1)).trans c1, HB7.out⟩))
                all_goals
                  have c1 := hS7.1
                  have HB8 := Lib.hid (HBi.out.trans (HB7.out.mono HBi.out.size))
                  clear HS0 hr hb6 hS6 HHD HR6 HB6 hb7 hS7 HB7
                  go_wp2_with fail
                  go_roundw
                  case rel => exact ⟨j + 1, by omega, by go_num, by rw [HS2.out, HSM.out], HB8.out⟩
                  case measure => simp [intOf]; omega
              · obtain rfl : j = 4 := by omega
                have HLN := Lib.hid (ss_len HOi.out.ss)
                have HSL := Lib.hid (hsum4 HOi.out.ok.1)
                rw [← HSL.out] at HLN
                go_wp2_with fail
                refine HLN.out.mono ?_
                rintro e w6 ⟨rfl, hb6⟩
                have HB6 := Lib.hid hb6
                clear hb6 HLN HSL
                go_wp2_with fail
                go_roundw
                case rel => exact ⟨k + 1, l2, hs2, ks2, by omega, by go_num, HOi.out.below HB6.out, HR5.out⟩
                case measure => simp [intOf]; omega
          | succ p =>
            have hne : held l (t : Int) ≠ [] := fun e => by rw [hHt, e] at hm; cases hm
            obtain ⟨i, hu⟩ := unl_held hne
            obtain ⟨hi, hi1, _⟩ := unl_some hu
            have hcut := held_cut hu
            have hok := HOy.out.ok.1
            have hrs := hok.rs _ (getD_mem hi)
            obtain ⟨x, hx⟩ : ∃ x : Nat, (l.getD i e0).2 = x := ⟨(l.getD i e0).2.toNat, by omega⟩
            have hx8 : x < 8 := by omega
            rw [hx] at hcut
            have HE : Hid (unlV 4 l (t : Int) = .tuple #[.int .i64 (x : Int), .int .i64 0] ∧ unlN 4 l (t : Int) = cut l i) := by
              refine ⟨?_, ?_⟩
              · unfold unlV unlR unlE; rw [if_pos hin, if_pos hin, hu]; simp only [hx]
              · unfold unlN unlL; rw [if_pos hin, hu]
            have hlast : (hs t).getD p 0 = (x : Int) := by
              rw [hHt, hcut]
              have : (held (cut l i) (t : Int)).length = p := by rw [hHt, hcut, List.length_append] at hm; simpa using hm
              rw [← this, List.getD_eq_getElem?_getD, List.getElem?_append_right (Nat.le_refl _), Nat.sub_self]
              rfl
            obtain ⟨l2, hl2⟩ : ∃ l2, l2 = cut l i := ⟨_, rfl⟩
            obtain ⟨hs2, hh2⟩ : ∃ hs2, hs2 = upH hs t ((hs t).take p) := ⟨_, rfl⟩
            obtain ⟨ks2, hk2⟩ : ∃ ks2, ks2 = upK ks x false := ⟨_, rfl⟩
            have HR7 : Hid (RL l2 hs2 ks2) := by rw [hl2, hh2, hk2]; exact HR.out.unl t4 hok hi hi1 hx hcut hm
            have HLAST := Lib.hid hlast
            obtain ⟨j, hj⟩ : ∃ j, j = p + 1 := ⟨_, rfl⟩
            have HJ := Lib.hid hj
            rw [← hj] at c1 HIS
            have hjp : (j : Int) - 1 = (p : Int) := by omega
            have hj4 : j ≤ 4 := by have := HOy.out.len t4; omega
            have hj0 : decide (0 < (j : Int)) = true := by simp; omega
            have hj1 : decide (0 < j) = true := by simp; omega
            have hp0 : (0 : Int) ≤ p := by omega
            have hpj : (p : Int) < (j : Int) := by omega
            have hpj2 : p < j := by omega
            have hjc : j ≤ rc := by obtain ⟨_, _, e, q, _⟩ := HIS.out.slice; simp at e; omega
            have hpc : p ≤ rc := by omega
            have hpc2 : (p : Int) ≤ (rc : Int) := by omega
            have hx0 : (0 : Int) ≤ x := by omega
            have hx8I : (x : Int) < 8 := by omega
            have HM := Lib.hid hm
            clear his hin hHt hm hne hu hi hi1 hcut hrs hx hlast hok hj
            go_wp2_with fail
            refine (oc_unl HOy.out (t : Int) HE.out.1 HE.out.2).mono ?_
            rintro e w5 ⟨rfl, ho⟩
            obtain ⟨ra, rc, c1, _, his⟩ := ho.row t4
            have hjc : j ≤ rc := by obtain ⟨_, _, e, q, _⟩ := his.slice; simp at e; have := HM.out; have := HJ.out; omega
            have hpc : p ≤ rc := by omega
            have hpc2 : (p : Int) ≤ (rc : Int) := by omega
            rw [show (hs t).length = j from HM.out.trans HJ.out.symm] at c1 his
            obtain ⟨g, go, rfl, c3⟩ := his.at hpj2
            rw [HLAST.out] at c3
            obtain ⟨s1, s2⟩ := ho.bit hx8
            have HO6 := Lib.hid (ho.setK hx8 false)
            obtain ⟨ra', rc', e1, e2, _⟩ := HO6.out.row t4
            rw [show (hs t).length = j from HM.out.trans HJ.out.symm] at e1
            have hee : Value.slice ra' j rc' = .slice (some ⟨g, go, none⟩) j rc := by
              have h1 : (w5.setCell ⟨kb, x, none⟩ (.bool false)).cell? ⟨rb, t, none⟩ = w5.cell? ⟨rb, t, none⟩ := World.cell?_of_block (Below.heap_setCell _ _ _ _ (by obtain ⟨_, _, _, h⟩ := ho; exact h.a1.2.2.1))
              rw [h1, c1] at e1
              injection e1 with e1
              exact e1.symm
            injection hee with h1 _ h3
            subst h1; subst h3
            have HO7 := Lib.hid (HO6.out.cut t4 (k := p) (by rw [HM.out]; omega) (by rw [show (hs t).length = j from HM.out.trans HJ.out.symm]; exact e1))
            rw [← hh2, ← hk2, ← hl2] at HO7
            clear ho HO6 his hh2 hk2 hl2 HOy HR HTy HE HHm HIS HLAST HM
            go_upto_region 39 with (fail)
            generalize w5.setCell ⟨kb, x, none⟩ (.bool false) = w5b at *
            clear s1 s2 c1 c3
            go_wp2_with fail
            generalize w5b.setCell ⟨rb, t, none⟩ (.slice (some ⟨g, go, none⟩) p rc') = w7 at *
            go_wp2_with fail
            go_loopw [19, 20] (fun nv i wi => ∃ j : Nat, j ≤ 4 ∧ i = .int .i64 j ∧ nv = .int .i64 (hsum l2 j : Nat) ∧ Hid (Below w7.heap.size w7 wi)) (fun _ i _ => 4 - (intOf i).toNat)
            case atStart => exact ⟨0, by omega, rfl, rfl, Below.refl _ _⟩
            case round =>
              obtain ⟨j, hj, rfl, rfl, HBi⟩ := hrel
              have HOi := Lib.hid (HO7.out.below HBi.out)
              by_cases hj4 : j < 4
              · obtain ⟨ra, rc, c1, _, his⟩ := HOi.out.row hj4
                rw [HR7.out.h j hj4] at c1 his
                have HIS := Lib.hid his
                have hs1 : hsum l2 (j + 1) = hsum l2 j + (held l2 (j : Int)).length := rfl
                have hs2 := hsum_le HOi.out.ok.2 (j + 1)
                have hs3 := HOi.out.ok.2 (j : Int)
                obtain ⟨m, hm⟩ : ∃ m, m = (held l2 (j : Int)).length := ⟨_, rfl⟩
                have HHm := Lib.hid hm
                have HHD := Lib.hid (fun W (q : Below wr.heap.size wr W) => ss_held (HOi.out.ss.below q) (j : Int) rfl)
                rw [← hm] at c1 HIS hs1 hs3
                obtain ⟨S, hS⟩ : ∃ S, hsum l2 j = S := ⟨_, rfl⟩
                obtain ⟨S2, hS2⟩ : ∃ S2, hsum l2 (j + 1) = S2 := ⟨_, rfl⟩
                rw [hS, hS2] at hs1
                have HS2 := Lib.hid hS2
                have HSM : Hid ((S : Int) + (m : Int) = (S2 : Int)) := by unfold Hid; omega
                have hS100 : S ≤ 100 := by omega
                have hm100 : m ≤ 4 := by omega
                have hj0 : (0 : Int) ≤ j := by omega
                have hjI : (j : Int) < 4 := by omega
                rw [hS]
                clear his hm hS hS2 hs1 hs2 hs3
                have mixed : Try.prog.follows .mixedOrders = true := by kernel_rfl
                go_wp2_with fail
                have HS0 := Lib.hid (And.intro c1 (Below.refl wr.heap.size wr))
                go_region_held3 (fun w' => w'.cell? ⟨rb, j, none⟩ = some (.slice ra m rc) ∧ Below wr.heap.size wr w')
                  (first | assumption | exact HS0.out | exact ⟨HS0.out.1, HS0.out.2.drew⟩ | go_keep)
                  (first | (go_at_call 19; refine (HHD.out _ (by first | exact Below.refl _ _ | exact (Below.refl _ _).drew)).mono ?_; rintro e w6 ⟨rv, rfl, hr, hb6⟩; have HR6 := Lib.hid hr.is; have HB6 := Lib.hid (show Below wr.heap.size wr w6 from chn (Below.drew (Below.refl _ _)) hb6); have hS6 : w6.cell? ⟨rb, j, none⟩ = some (.slice ra m rc) ∧ Below wr.heap.size wr w6 := ⟨(HB6.out.cell (lt_of_cell c1)).trans c1, HB6.out⟩)
                         | (go_at_call 18; refine (eqs_any HR6.out (HIS.out.below HB6.out) (by rw [← HHm.out]; omega)).mono ?_; rintro e w7 ⟨rfl, hb7⟩; have HB7 := Lib.hid (chn HB6.out hb7); have hS7 : w7.cell? ⟨rb, j, none⟩ = some (.slice ra m rc) ∧ Below wr.heap.size wr w7 := ⟨(HB7.out.cell (lt_of_cell c1)).trans c1, HB7.out⟩))
                all_goals
                  have c1 := hS7.1
                  have HB8 := Lib.hid (HBi.out.trans (HB7.out.mono HBi.out.size))
                  clear HS0 hr hb6 hS6 HHD HR6 HB6 hb7 hS7 HB7
                  go_wp2_with fail
                  go_roundw
                  case rel => exact ⟨j + 1, by omega, by go_num, by rw [HS2.out, HSM.out], HB8.out⟩
                  case measure => simp [intOf]; omega
              · obtain rfl : j = 4 := by omega
                have HLN := Lib.hid (ss_len HOi.out.ss)
                have HSL := Lib.hid (hsum4 HOi.out.ok.1)
                rw [← HSL.out] at HLN
                go_wp2_with fail
                refine HLN.out.mono ?_
                rintro e w6 ⟨rfl, hb6⟩
                have HB6 := Lib.hid hb6
                clear hb6 HLN HSL
                go_wp2_with fail
                go_roundw
                case rel => exact ⟨k + 1, l2, hs2, ks2, by omega, by go_num, HOi.out.below HB6.out, HR7.out⟩
                case measure => simp [intOf]; omega
        · have hHt := HR.out.h t t4
          have hok := HOy.out.ok
          have hl4 := hok.2 (t : Int)
          obtain ⟨l2, hl2⟩ : ∃ l2, l2 = drp l (t : Int) := ⟨_, rfl⟩
          obtain ⟨hs2, hh2⟩ : ∃ hs2, hs2 = upH hs t [] := ⟨_, rfl⟩
          obtain ⟨xs, hxs⟩ : ∃ xs, xs = held l (t : Int) := ⟨_, rfl⟩
          obtain ⟨m, hm⟩ : ∃ m, m = xs.length := ⟨_, rfl⟩
          obtain ⟨ks2, hk2⟩ : ∃ ks2, ks2 = ksN ks xs.reverse m := ⟨_, rfl⟩
          have HR7 : Hid (RL l2 hs2 ks2) := by
            rw [hl2, hh2, hk2, hm, hxs, ← List.length_reverse]
            exact HR.out.drop hok.1
          have HXB : Hid (∀ x ∈ xs, 0 ≤ x ∧ x < 8) := fun x hx => by
            rw [hxs] at hx
            exact hok.1.rs _ (held_mem.mp hx)
          have HDR := Lib.hid (oc_drop HOy.out (t : Int))
          rw [← hxs, ← hl2] at HDR
          have HHt : Hid (hs t = xs) := by rw [hxs]; exact hHt
          have hm4 : m ≤ 4 := by rw [hm, hxs]; exact hl4
          have HMx := Lib.hid hm
          have HK2 := Lib.hid hk2
          have HH2 := Lib.hid hh2
          have HKB : Hid (kb < w4.heap.size) := by obtain ⟨_, _, _, h⟩ := HOy.out; exact h.bsz.2.2.2
          clear hHt hok hl4 hl2 hh2 hxs hm hk2 HR HTy HOy
          go_wp2_with fail
          refine HDR.out.mono ?_
          rintro e w5 ⟨rv, rfl, hnr, ho⟩
          obtain ⟨oa, oc, rfl⟩ := hnr.is_form
          rw [show xs.reverse.length = m by rw [List.length_reverse, HMx.out]] at *
          obtain ⟨ra, rc, c1, _, _⟩ := ho.row t4
          rw [HHt.out, ← HMx.out] at c1
          have HO5 := Lib.hid ho
          have HN5 := Lib.hid hnr
          clear ho hnr HDR
          go_wp2_with fail
          clear c1
          go_loopw [18] (fun i wi => ∃ j : Nat, j ≤ m ∧ i = .int .i64 j ∧ Hid (OC w1.heap.size w1 wi sb rb kb z l2 hs (ksN ks xs.reverse j)) ∧ Hid (NR wi w4.heap.size (.slice oa m oc) xs.reverse)) (fun i _ => m - (intOf i).toNat)
          case atStart => exact ⟨0, Nat.zero_le _, rfl, by rw [ksN_zero]; exact HO5.out, HN5.out⟩
          case round =>
            clear HO5 HN5
            obtain ⟨j, hj, rfl, HO6, HN6⟩ := hrel
            by_cases hjm : j < m
            · obtain ⟨ra, rc, c1, _, his⟩ := HO6.out.row t4
              rw [HHt.out] at c1 his
              have hisr := HN6.out.is
              have hlr : xs.reverse.length = m := by rw [List.length_reverse, HMx.out]
              obtain ⟨og, oo, rfl, c2⟩ := hisr.at hjm
              rw [← HMx.out] at c1 his
              obtain ⟨p, hp⟩ : ∃ p, p = m - 1 - j := ⟨_, rfl⟩
              have hpm : p < m := by omega
              obtain ⟨g, go, rfl, c3⟩ := his.at hpm
              have hda : xs.reverse.getD j 0 = xs.getD p 0 := by rw [drop_at (by rw [← HMx.out]; exact hjm), ← HMx.out, ← hp]
              have hxm : xs.getD p 0 ∈ xs := by
                have hpl : p < xs.length := by rw [← HMx.out]; exact hpm
                rw [List.getD_eq_getElem?_getD, List.getElem?_eq_getElem hpl]
                exact List.getElem_mem hpl
              have hxr := HXB.out _ hxm
              obtain ⟨x, hx⟩ : ∃ x : Nat, xs.getD p 0 = x := ⟨(xs.getD p 0).toNat, by omega⟩
              have hx8 : x < 8 := by omega
              have hda2 : xs.reverse.getD j 0 = (x : Int) := hda.trans hx
              rw [hda2] at c2
              rw [hx] at c3
              obtain ⟨s1, s2⟩ := HO6.out.bit hx8
              have HO7 := HO6.out.setK hx8 false
              rw [ksN_succ ks xs.reverse (by rw [hlr]; exact hjm) hda2] at HO7
              have HO8 : Hid (∀ nq, OC w1.heap.size w1 ((wr.drewN nq).setCell ⟨kb, x, none⟩ (.bool false)) sb rb kb z l2 hs (ksN ks xs.reverse (j + 1))) := fun nq => by
                have := (HO6.out.below (below_drewN (Below.refl _ _) nq)).setK hx8 false
                rwa [ksN_succ ks xs.reverse (by rw [hlr]; exact hjm) hda2] at this
              have HN8 : Hid (∀ nq, NR ((wr.drewN nq).setCell ⟨kb, x, none⟩ (.bool false)) w4.heap.size (.slice (some ⟨og, oo, none⟩) m oc) xs.reverse) := fun nq => by
                have h1 := NR.kept HN6.out (below_drewN (Below.refl _ _) nq)
                refine World.ownsRow.kept h1 (grown_set _ kb x _) (Or.inr fun e => ?_)
                have := (World.ownsRow.lt h1 _ e).1
                have := HKB.out
                omega
              have hp1 : (m : Int) - 1 - (j : Int) = (p : Int) := by omega
              have HWP : Hid (wrap64 (p : Int) = (p : Int) ∧ IntKind.i64.wrap (p : Int) = (p : Int)) := ⟨by unfold wrap64; omega, IntWalk.i64_in _ (by omega)⟩
              obtain ⟨m1, hm1⟩ : ∃ m1 : Nat, (m : Int) - 1 = (m1 : Int) := ⟨m - 1, by omega⟩
              have HWM : Hid (wrap64 (m1 : Int) = (m1 : Int) ∧ IntKind.i64.wrap (m1 : Int) = (m1 : Int)) := ⟨by unfold wrap64; omega, IntWalk.i64_in _ (by omega)⟩
              have hp2 : (m1 : Int) - (j : Int) = (p : Int) := by omega
              have hp0 : (0 : Int) ≤ p := by omega
              have hpI : (p : Int) < (m : Int) := by omega
              have hj0 : (0 : Int) ≤ j := by omega
              have hjI : (j : Int) < (m : Int) := by omega
              have hx0 : (0 : Int) ≤ x := by omega
              have hx8I : (x : Int) < 8 := by omega
              clear his hisr hlr hda hxm hxr hx hda2 HO7 hp hp1 HO6 HN6
              obtain ⟨hwp, hwp2⟩ := HWP.out
              obtain ⟨hwm, hwm2⟩ := HWM.out
              go_wp2_with fail
              go_quiet (fail)
              clear hwp hwp2 hwm hwm2
              rename_i nq _
              have c2 : (wr.drewN nq).cell? ⟨og, oo + j, none⟩ = some (.int .i64 (x : Int)) := c2
              have s1 : (wr.drewN nq).cell? ⟨kb, x, none⟩ = _ := s1
              have s2 : (wr.drewN nq).frozen? ⟨kb, x, none⟩ = false := s2
              have HO9 := Lib.hid (HO8.out nq)
              have HN9 := Lib.hid (HN8.out nq)
              clear HO8 HN8 c1 c3
              generalize wr.drewN nq = wz at *
              go_wp2_with fail
              go_roundw
              case rel => exact ⟨j + 1, by omega, by go_num, HO9.out, HN9.out⟩
              case measure => simp [intOf]; omega
            · obtain rfl : j = m := by omega
              obtain ⟨ra, rc, c1, c2, _⟩ := HO6.out.row t4
              have HO7 := Lib.hid (HO6.out.clr t4)
              rw [← HH2.out, ← HK2.out] at HO7
              clear HO6 HN6
              go_wp2_with fail
              generalize wr.setCell ⟨rb, t, none⟩ (.slice none 0 0) = w7 at *
              go_wp2_with fail
              go_loopw [19, 20] (fun nv i wi => ∃ j : Nat, j ≤ 4 ∧ i = .int .i64 j ∧ nv = .int .i64 (hsum l2 j : Nat) ∧ Hid (Below w7.heap.size w7 wi)) (fun _ i _ => 4 - (intOf i).toNat)
              case atStart => exact ⟨0, by omega, rfl, rfl, Below.refl _ _⟩
              case round =>
                obtain ⟨j, hj, rfl, rfl, HBi⟩ := hrel
                have HOi := Lib.hid (HO7.out.below HBi.out)
                by_cases hj4 : j < 4
                · obtain ⟨ra, rc, c1, _, his⟩ := HOi.out.row hj4
                  rw [HR7.out.h j hj4] at c1 his
                  have HIS := Lib.hid his
                  have hs1 : hsum l2 (j + 1) = hsum l2 j + (held l2 (j : Int)).length := rfl
                  have hs2 := hsum_le HOi.out.ok.2 (j + 1)
                  have hs3 := HOi.out.ok.2 (j : Int)
                  obtain ⟨m, hm⟩ : ∃ m, m = (held l2 (j : Int)).length := ⟨_, rfl⟩
                  have HHm := Lib.hid hm
                  have HHD := Lib.hid (fun W (q : Below wr.heap.size wr W) => ss_held (HOi.out.ss.below q) (j : Int) rfl)
                  rw [← hm] at c1 HIS hs1 hs3
                  obtain ⟨S, hS⟩ : ∃ S, hsum l2 j = S := ⟨_, rfl⟩
                  obtain ⟨S2, hS2⟩ : ∃ S2, hsum l2 (j + 1) = S2 := ⟨_, rfl⟩
                  rw [hS, hS2] at hs1
                  have HS2 := Lib.hid hS2
                  have HSM : Hid ((S : Int) + (m : Int) = (S2 : Int)) := by unfold Hid; omega
                  have hS100 : S ≤ 100 := by omega
                  have hm100 : m ≤ 4 := by omega
                  have hj0 : (0 : Int) ≤ j := by omega
                  have hjI : (j : Int) < 4 := by omega
                  rw [hS]
                  clear his hm hS hS2 hs1 hs2 hs3
                  have mixed : Try.prog.follows .mixedOrders = true := by kernel_rfl
                  go_wp2_with fail
                  have HS0 := Lib.hid (And.intro c1 (Below.refl wr.heap.size wr))
                  go_region_held3 (fun w' => w'.cell? ⟨rb, j, none⟩ = some (.slice ra m rc) ∧ Below wr.heap.size wr w')
                    (first | assumption | exact HS0.out | exact ⟨HS0.out.1, HS0.out.2.drew⟩ | go_keep)
                    (first | (go_at_call 19; refine (HHD.out _ (by first | exact Below.refl _ _ | exact (Below.refl _ _).drew)).mono ?_; rintro e w6 ⟨rv, rfl, hr, hb6⟩; have HR6 := Lib.hid hr.is; have HB6 := Lib.hid (show Below wr.heap.size wr w6 from chn (Below.drew (Below.refl _ _)) hb6); have hS6 : w6.cell? ⟨rb, j, none⟩ = some (.slice ra m rc) ∧ Below wr.heap.size wr w6 := ⟨(HB6.out.cell (lt_of_cell c1)).trans c1, HB6.out⟩)
                           | (go_at_call 18; refine (eqs_any HR6.out (HIS.out.below HB6.out) (by rw [← HHm.out]; omega)).mono ?_; rintro e w7 ⟨rfl, hb7⟩; have HB7 := Lib.hid (chn HB6.out hb7); have hS7 : w7.cell? ⟨rb, j, none⟩ = some (.slice ra m rc) ∧ Below wr.heap.size wr w7 := ⟨(HB7.out.cell (lt_of_cell c1)).trans c1, HB7.out⟩))
                  all_goals
                    have c1 := hS7.1
                    have HB8 := Lib.hid (HBi.out.trans (HB7.out.mono HBi.out.size))
                    clear HS0 hr hb6 hS6 HHD HR6 HB6 hb7 hS7 HB7
                    go_wp2_with fail
                    go_roundw
                    case rel => exact ⟨j + 1, by omega, by go_num, by rw [HS2.out, HSM.out], HB8.out⟩
                    case measure => simp [intOf]; omega
                · obtain rfl : j = 4 := by omega
                  have HLN := Lib.hid (ss_len HOi.out.ss)
                  have HSL := Lib.hid (hsum4 HOi.out.ok.1)
                  rw [← HSL.out] at HLN
                  go_wp2_with fail
                  refine HLN.out.mono ?_
                  rintro e w6 ⟨rfl, hb6⟩
                  have HB6 := Lib.hid hb6
                  clear hb6 HLN HSL
                  go_wp2_with fail
                  go_roundw
                  case rel => exact ⟨k + 1, l2, hs2, ks2, by omega, by go_num, HOi.out.below HB6.out, HR7.out⟩
                  case measure => simp [intOf]; omega
      · have hk1 : decide ((k : Int) < 150) = false := by simp; omega
        have hkI : (k : Int) < (n : Int) := by omega
        have HBr := Lib.hid (HB1.out.trans (HO.out.bel.mono HB1.out.size))
        go_wp2_with fail
        go_ret
        exact ⟨rfl, HBr.out⟩
    · obtain rfl : k = n := by omega
      have HBr := Lib.hid (HB1.out.trans (HO.out.bel.mono HB1.out.size))
      go_wp2_with fail
      go_ret
      exact ⟨rfl, HBr.out⟩
end Go.Proofs.Ytmheggedlepdlaa
