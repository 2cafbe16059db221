/- P18.8: RoomWaits' walk. -/
import Derived.Test.YtkkmfpllgjoceaaGreatRooLf
import Derived.Test.YtkkmfpllgjoceaaGreatRooWb
import Derived.Deep.CutBlock
import Derived.Deep.RegionHeld3
import Derived.StillTailTactics
namespace Go.Proofs.YtkkmfpllgjoceaaGreat.Ro
open Go.RowKit Go.Sort Ac Jo
set_option linter.unusedVariables false
set_option maxRecDepth 100000

theorem had_no : (#[.bool false, .bool false, .bool false, .bool false, .bool false, .bool false, .bool false, .bool false, .bool false, .bool false, .bool false, .bool false, .bool false, .bool false, .bool false, .bool false] : Array Value) = hcl (fun _ _ => false) := rfl
theorem wh_no : (#[.int .i64 0, .int .i64 0, .int .i64 0, .int .i64 0] : Array Value) = ycl (fun _ => 0) := rfl
theorem rel_dl {s : Rm} {now t : Int} (h : Pl s now) (he : relE s t run64 now = 0) : 0 ≤ (relR s t run64 now).dl t := by
  obtain ⟨a1, a2, a3, a4, _⟩ := rel_cases he
  have h2 : (relR s t run64 now).dl t = now + s.t t 1 := by
    unfold relR
    rw [if_pos he]
    show Rq.Rd.dl (s.L.set t.toNat (now + s.t t 1)) t = _
    rw [Rq.Rd.dl_set a1 (by rw [h.iv.len]; exact a2), if_pos rfl]
  rw [h2]
  have hb := tok_bd (h.iv.tok t.toNat (by omega))
  unfold Rm.t
  omega
theorem rel_held {s : Rm} {now t u : Int} (h : Pl s now) (he : relE s t run64 now = 0) (hu : Hd s.E u) : 0 ≤ u ∧ u < s.n ∧ 0 < (heldV (relR s t run64 now) u).length := by
  obtain ⟨a1, a2, a3, a4, _⟩ := rel_cases he
  obtain ⟨e, he1, he2⟩ := hu
  have h1 := h.iv.own e he1
  rw [he2] at h1
  have h2 := asked_job h.iv h1
  have h3 : 0 ≤ (relR s t run64 now).dl u := by
    by_cases q : u = t
    · subst q; exact rel_dl h he
    · unfold relR
      rw [if_pos he]
      show 0 ≤ Rq.Rd.dl (s.L.set t.toNat (now + s.t t 1)) u
      rw [Rq.Rd.dl_set a1 (by rw [h.iv.len]; exact a2), if_neg q]
      exact h1
  have h4 := (h.rel t run64).iv
  have hE : (relR s t run64 now).E = s.E := by unfold relR; rw [if_pos he]
  refine ⟨h2.2.1, h2.2.2, ?_⟩
  unfold heldV
  rw [if_pos (asked_job h4 h3).1, hE]
  have := hd_held.1 ⟨e, he1, he2⟩
  exact List.length_pos_iff.2 this
theorem wrap_big {x : Nat} (h : x ≤ 10000) : wrap64 (x : Int) = x := by unfold wrap64; omega
theorem iwrap_big {x : Nat} (h : x ≤ 10000) : IntKind.i64.wrap (x : Int) = x := by rw [IntKind.wrap_i64]; omega
theorem tr_facts {y : Int} {m : Nat} (h0 : 0 ≤ y) (h1 : y < 9600) (hm : 0 < m) (hm4 : m ≤ 4) : ∃ y3 tr : Nat, y.tdiv 3 = (y3 : Int) ∧ (y3 : Int).tmod (m : Int) = (tr : Int) ∧ tr < m ∧ tr < 4 ∧ y3 ≤ 3200 := by
  obtain ⟨k, rfl⟩ : ∃ k : Nat, y = k := ⟨y.toNat, by omega⟩
  refine ⟨k / 3, (k / 3) % m, rfl, rfl, Nat.mod_lt _ hm, ?_, by omega⟩
  have := Nat.mod_lt (k / 3) hm
  omega
theorem held_pos {s : Rm} (h : Rinv s) {u : Int} (hu : Hd s.E u) : 0 < (heldV s u).length := by
  obtain ⟨e, he1, he2⟩ := hu
  have h1 := h.own e he1
  rw [he2] at h1
  unfold heldV
  rw [if_pos (asked_job h h1).1]
  exact List.length_pos_iff.2 (hd_held.1 ⟨e, he1, he2⟩)
theorem Wt.keep1 {s : Rm} {had : Int → Int → Bool} {wh : Int → Int} (h : Rinv s) (q : Wt s had wh) (t k : Int) (b : Bool) (hb : had t k = true → 0 < (heldV s k).length → b = true) : Wt s (updB had t k b) wh :=
  q.still fun a c h1 h2 => by
    unfold updB
    split
    · rename_i e
      obtain ⟨rfl, rfl⟩ := e
      exact hb h1 (held_pos h h2)
    · exact h1
theorem Wt.go {s : Rm} {now w : Int} {had : Int → Int → Bool} {wh : Int → Int} (h : Pl s now) (g : Goes s.ev s.dl s.E s.bg w) (q : Wt s had wh) {n : Nat} (hn : s.n = n) (x : Int) : Wt (actS s w x) had (noteN s.dl w wh n) := by
  have h1 : noteN s.dl w wh n = note s.dl w wh := noteN_all (fun t ht => by have := h.i.dom t ht; rw [← hn]; exact this)
  rw [h1]
  exact Wt.act h g (Wts.note h.i q g) (fun t a b => note_at a b) x
/-- a job that waits for who goes on with a later deadline -/
theorem go_facts {s : Rm} {now w : Int} {had : Int → Int → Bool} {wh : Int → Int} (h : Pl s now) (g : Goes s.ev s.dl s.E s.bg w) (q : Wt s had wh) {t : Int} (ht : 0 ≤ s.dl t) (hl : s.dl t < s.dl w) : 0 < (heldV s w).length ∧ had t w = true ∧ (wh t = 0 ∨ wh t = w + 1) := by
  obtain ⟨h1, h2, h3⟩ := waits_ok h.i q g ht hl
  exact ⟨held_pos h.iv h1, h2, h3⟩
theorem dead_yes {s : Rm} (h : Rinv s) {t : Int} (ht : 0 ≤ s.dl t) : deadV s t = .tuple #[.int .i64 (s.dl t), .bool true] := if_pos (asked_job h ht).1
theorem dead_no {s : Rm} {t : Int} (ht : ¬ 0 ≤ s.dl t) : deadV s t = .tuple #[.int .i64 0, .bool false] := if_neg (fun e => ht (asked_in e).2.2)
theorem who_or (s : Rm) : ∃ (a : Int) (b : Bool), whoV s = .tuple #[.int .i64 a, .bool b] := by
  unfold whoV
  split
  · exact ⟨_, _, rfl⟩
  · exact ⟨_, _, rfl⟩
theorem tup2 {a b : Int} {c d : Bool} (h : (Value.tuple #[.int .i64 a, .bool c]) = .tuple #[.int .i64 b, .bool d]) : a = b ∧ c = d := by
  injection h with h
  injection h with h
  simp only [List.cons.injEq, Value.int.injEq, Value.bool.injEq, and_true, true_and] at h
  exact h
theorem hsame {w : World} {a : Addr} {v : Value} (u : World) (h : w.cell? a = some v) : w.cell? a = some v := h
theorem dead_or (s : Rm) (t : Int) : ∃ (a : Int) (b : Bool), deadV s t = .tuple #[.int .i64 a, .bool b] := by
  unfold deadV
  split
  · exact ⟨_, _, rfl⟩
  · exact ⟨_, _, rfl⟩
set_option maxHeartbeats 60000000 in
theorem waits_any {w : World} {v u : Value} {n : Nat} {z : Nat → Nat → Int} {xs : List Int} (h : St.TK w v n z) (hx : St.IS w u xs) : Calls Tryz.prog 5 #[v, u] w (TrueB w) := by
  obtain ⟨ua, ucap, rfl, hu1, hu2⟩ := hx.slice
  have hmx : xs.length ≤ 9223372036854775807 := by unfold maxLen at hu2; omega
  have HT := Lib.hid h
  have HX := Lib.hid hx
  obtain ⟨N, hN⟩ : ∃ N, N = xs.length := ⟨_, rfl⟩
  rw [← hN] at HX hmx ⊢
  clear h hx hN hu1 hu2
  go_enter Tryz.func5, Tryz.ntmps5
  go_wp2_with fail
  refine (made_any HT.out).mono ?_
  rintro e w2 ⟨r, rfl, hnt, hb⟩
  obtain ⟨m, hm⟩ : ∃ m, m = min n 4 := ⟨_, rfl⟩
  rw [← hm] at hnt
  have hm4 : m ≤ 4 := by omega
  obtain ⟨ta, tc, rfl⟩ := St.own_slice hnt
  have HB2 := Lib.hid hb
  have HNT : Hid (St.NT w2 w.heap.size (.slice ta m tc) m (ym z)) := Lib.hid hnt
  clear hnt hb hm
  go_wp2_with fail
  refine (of_new Q0 HB2.out (Nat.le_refl _) (F := fun k => (Value.slice ta m tc).ownBlock = some k) (fun k hk => (own_ge HNT.out k hk).2) (St.NT.tk HNT.out) hm4 (fun i _ => ym_tok z i) (fun i _ => ym_z7 z i)).mono ?_
  rintro e w3 ⟨rb, rfl, hof, hk3, hb3⟩
  have HOF := Lib.hid hof
  have HNT3 : Hid (St.NT w3 w.heap.size (.slice ta m tc) m (ym z)) := row_keep HNT.out hk3
  have HB3 : Hid (Below w.heap.size w w3) := HB2.out.trans (hb3.mono HB2.out.size)
  clear hof hk3 hb3 HNT HB2
  have HPL := Lib.hid (PL.begin HOF.out HNT3.out HB3.out.size)
  have HPS : Hid (PS (fun _ => none) w.heap.size w (w3.alloc (.cells #[.pointer (some ⟨rb, 0, none⟩), .slice ta m tc, .int .i64 0, .slice none 0 0] 46)) w3.heap.size rb (.slice ta m tc) m 0 (noRm m (ym z)) 0 [] (.slice none 0 0)) :=
    ⟨HPL.out, Pl.no (Rinv.no hm4 (fun i _ => ym_tok z i) (fun i _ => ym_z7 z i)) (Int.le_refl _), Ord.nil, Int.le_refl _, Nat.le_refl _, rfl⟩
  have HB5 : Hid (Below w.heap.size w (w3.alloc (.cells #[.pointer (some ⟨rb, 0, none⟩), .slice ta m tc, .int .i64 0, .slice none 0 0] 46))) := by
    exact HB3.out.alloc HB3.out.size _
  clear HOF HNT3 HB3 HPL
  obtain ⟨W5, hW5⟩ : ∃ W5, W5 = (w3.alloc (.cells #[.pointer (some ⟨rb, 0, none⟩), .slice ta m tc, .int .i64 0, .slice none 0 0] 46)) := ⟨_, rfl⟩
  rw [← hW5] at HPS HB5
  have HW5 := Lib.hid hW5
  clear hW5
  go_upto_region 6 with (fail)
  rw [← HW5.out]
  clear HW5
  generalize w3.heap.size = pb at *
  have HWS := Lib.hid HPS.out.arrays
  have HW0 : Hid (Wt (noRm m (ym z)) (fun _ _ => false) (fun _ => 0)) := Lib.hid Wt.no
  clear HPS HB5
  go_upto_region 8 with (fail)
  rw [had_no, wh_no]
  generalize ((W5.alloc (.cells (hcl fun _ _ => false) 51)).alloc (.cells (ycl fun _ => 0) 52)) = W6 at *
  generalize W5.heap.size + 1 = yb at *
  generalize W5.heap.size = hb at *
  generalize (fun _ _ => false : Int → Int → Bool) = had0 at *
  generalize (fun _ => 0 : Int → Int) = wh0 at *
  go_wp2_with fail
  go_loopw [11] (fun i wr => ∃ (j : Nat) (s : Rm) (now : Int) (O : List Int) (ov : Value) (had : Int → Int → Bool) (wh : Int → Int), j ≤ N ∧ j ≤ 150 ∧ i = .int .i64 j ∧ Hid (WS w.heap.size w wr pb rb hb yb (.slice ta m tc) m j s now O ov had wh) ∧ Hid (Wt s had wh)) (fun i _ => 150 - (intOf i).toNat)
  case atStart => exact ⟨0, _, _, _, _, _, _, Nat.zero_le _, Nat.zero_le _, rfl, HWS.out, HW0.out⟩
  case round =>
    clear HWS HW0 had0 wh0
    obtain ⟨j, s, now, O, ov, had, wh, hj, hj2, rfl, HP, HQ⟩ := hrel
    have HBr : Hid (Below w.heap.size w wr) := HP.out.ps.pl.rm.bel
    by_cases hlt : j < N ∧ j < 150
    · obtain ⟨hlt, hl2⟩ := hlt
      have hd1 : decide ((j : Int) < (N : Int)) = true := by simp; omega
      have hd2 : decide ((j : Int) < 150) = true := by simp; omega
      obtain ⟨xb, xo, x, rfl, cx⟩ := is_step (HX.out.below HBr.out) hlt
      have HBG := Lib.hid (fun W => bring_any x 9600 W (by decide) (by decide))
      have hbd := Lib.hid (bring_bd x 9600 (by decide))
      generalize bring x 9600 = y at *
      go_wp2_with fail
      refine (HBG.out _).mono ?_
      rintro e w5 ⟨rfl, rfl⟩
      clear cx HBG
      by_cases hrl : isRel s y
      · obtain ⟨hq1, hq2⟩ := id hrl
        have hd3 : (y.tmod 3 == 0) = true := by simpa using hq1
        have hm0 : 0 < m := by have := HP.out.ps.nn; omega
        obtain ⟨y3, tr, e3, e4, htr, htr2, hy3⟩ := tr_facts hbd.out.1 hbd.out.2 hm0 hm4
        have HTR : Hid (relT s y = (tr : Int)) := by unfold relT; rw [HP.out.ps.nn, e3]; exact Lib.hid e4
        have hss : stepS s now y = relR s tr run64 now := by rw [← HTR.out]; exact if_pos hrl
        have hsn : stepN s now y = now := if_pos hrl
        have hso : stepO s y O = O := if_pos hrl
        have HST : Hid (∀ w', Below wr.heap.size wr w' → Calls Tryz.prog 16 #[.pointer (some ⟨pb, 0, none⟩), .int .i64 y] w' (fun e w'' => e = .returned (.bool true) ∧ ∃ ov', WS w.heap.size w w'' pb rb hb yb (.slice ta m tc) m (j + 1) (relR s tr run64 now) now O ov' had wh)) := by
          refine Lib.hid (fun w' hbw => ?_)
          have h1 := (HP.out.below hbw).step hl2 hbd.out.1 hbd.out.2
          rw [hss, hsn, hso] at h1
          exact h1
        clear hss hsn hso
        have HD0 := Lib.hid (HP.out.dead (tr : Int) rfl)
        have HPL := Lib.hid HP.out.ps.hp
        have HNN := Lib.hid HP.out.ps.nn
        have HWF : Hid (∀ (had' : Int → Int → Bool) (wh' : Int → Int), relE s tr run64 now = 0 → (∀ a u, a ≠ (tr : Int) → had' a u = had a u) → (∀ u, Hd s.E u → had' tr u = true) → wh' tr = 0 → (∀ a, a ≠ (tr : Int) → wh' a = wh a) → Wt (relR s tr run64 now) had' wh') := Lib.hid (fun had' wh' he k1 k2 k3 k4 => Wt.rel HP.out.ps.hp HQ.out he k1 k2 k3 k4)
        have HWN : Hid (relE s tr run64 now ≠ 0 → Wt (relR s tr run64 now) had wh) := Lib.hid (fun he => Wt.norel HQ.out he)
        have hy3w : wrap64 (y3 : Int) = (y3 : Int) := wrap_big (Nat.le_trans hy3 (by decide))
        have hy3i : IntKind.i64.wrap (y3 : Int) = (y3 : Int) := iwrap_big (Nat.le_trans hy3 (by decide))
        have htw : wrap64 (tr : Int) = (tr : Int) := wrap_big (Nat.le_trans (Nat.le_of_lt htr2) (by decide))
        have hti : IntKind.i64.wrap (tr : Int) = (tr : Int) := iwrap_big (Nat.le_trans (Nat.le_of_lt htr2) (by decide))
        have hmz : ¬ m = 0 := by omega
        have hmg : decide ((0 : Int) < (m : Int)) = true := by simp; omega
        clear hrl hq2
        by_cases hre : relE s tr run64 now = 0
        · as_aux_lemma =>
            have hdv : deadV s tr = .tuple #[.int .i64 0, .bool false] := by
              obtain ⟨_, _, a3, _⟩ := rel_cases hre
              refine if_neg (fun e => ?_)
              have := (asked_in e).2.2
              omega
            rw [hdv] at HD0
            clear hdv
            clear hti hy3i
            go_wp2_with fail
            refine HD0.out.mono ?_
            rintro e w6 ⟨rfl, hb6⟩
            have HST6 := Lib.hid (HST.out _ hb6)
            clear hb6 HD0 HST
            go_wp2_with fail
            refine HST6.out.mono ?_
            rintro e w7 ⟨rfl, ov7, hws⟩
            have HP7 := Lib.hid hws
            clear hws HST6 HP HBr
            have hdv : deadV (relR s tr run64 now) tr = .tuple #[.int .i64 ((relR s tr run64 now).dl tr), .bool true] := by
              obtain ⟨a1, a2, a3, _⟩ := rel_cases hre
              have h1 : 0 ≤ (relR s tr run64 now).dl tr := rel_dl HPL.out hre
              exact if_pos (asked_job HP7.out.ps.hp.iv h1).1
            have HD7 := Lib.hid (HP7.out.dead (tr : Int) hdv)
            have HW1 := Lib.hid (fun had' wh' => HWF.out had' wh' hre)
            have hown : Hid (∀ u, Hd s.E u → 0 ≤ u ∧ u < m ∧ 0 < (heldV (relR s tr run64 now) u).length) := Lib.hid (fun u hu => by
              have h1 := rel_held HPL.out hre hu
              rw [HNN.out] at h1
              exact h1)
            clear hdv HWF HWN hre HPL HNN HQ HTR
            generalize relR s tr run64 now = s1 at *
            generalize s1.dl tr = dl1 at *
            go_wp2_with fail
            refine HD7.out.mono ?_
            rintro e w8 ⟨rfl, hb8⟩
            have HP8 := Lib.hid (HP7.out.below hb8)
            clear hb8 HD7 HP7
            go_wp2_with fail
            go_loopw [18] (fun i wi => ∃ (k : Nat) (had' : Int → Int → Bool) (wh' : Int → Int), k ≤ m ∧ i = .int .i64 k ∧ Hid (WS w.heap.size w wi pb rb hb yb (.slice ta m tc) m (j + 1) s1 now O ov7 had' wh') ∧ Hid ((∀ a u, a ≠ (tr : Int) → had' a u = had a u) ∧ (∀ u : Nat, u < k → had' tr u = decide (0 < (heldV s1 u).length)) ∧ (0 < k → wh' tr = 0) ∧ (∀ a, a ≠ (tr : Int) → wh' a = wh a))) (fun i _ => m - (intOf i).toNat)
            case atStart => exact ⟨0, _, _, Nat.zero_le _, rfl, HP8.out, Lib.hid ⟨fun _ _ _ => rfl, fun u hu => absurd hu (Nat.not_lt_zero _), fun h => absurd h (Nat.lt_irrefl _), fun _ _ => rfl⟩⟩
            case round =>
              clear HP8
              obtain ⟨k, had', wh', hk, rfl, HR, HK⟩ := hrel
              by_cases hlt2 : k < m
              · have hd4 : decide ((k : Int) < (m : Int)) = true := by simp; omega
                have hk4 : k < 4 := by omega
                have HH := Lib.hid (fun w' (hbw : Below wr.heap.size wr w') => (HR.out.below hbw).held (k : Int))
                have HC0 := Lib.hid (fun w' (hbw : Below wr.heap.size wr w') => (HR.out.below hbw).hcell htr2 hk4 (o := tr * 4 + k) rfl)
                have S0 := HC0.out wr (Below.refl _ _)
                have HS0 := Lib.hid S0
                have mixed : Tryz.prog.follows .mixedOrders = true := by kernel_rfl
                have hi1 : (0 : Int) ≤ (tr : Int) := by omega
                have hi2 : ((tr : Int) < 4) := by omega
                have hi3 : (0 : Int) ≤ (k : Int) := by omega
                have hi4 : ((k : Int) < 4) := by omega
                clear S0
                go_wp2_with fail
                go_region_held3 (fun w' => w'.frozen? ⟨hb, tr * 4 + k, none⟩ = false)
                  (first | assumption | exact HS0.out.2 | go_keep)
                  (first | (go_at_call 18; refine (HH.out _ (by first | exact Below.refl _ _ | exact Below.drew (Below.refl _ _))).mono ?_; rintro e w9 ⟨r, rfl, hr, hb9⟩; obtain ⟨ra, rc, rfl, hr1, _⟩ := (St.NR.is hr).slice; have HB9 : Hid (Below wr.heap.size wr w9) := Lib.hid (by first | exact hb9 | exact chn (Below.drew (Below.refl _ _)) hb9); obtain ⟨hS8, hS9⟩ := HC0.out w9 HB9.out; clear hr hr1))
                all_goals
                  have HW9 := Lib.hid ((HR.out.below HB9.out).sethad htr2 hk4 (decide (0 < (heldV s1 ↑k).length)) (o := tr * 4 + k) rfl)
                  obtain ⟨y1, y2⟩ := HW9.out.ycell htr2 (o := tr) rfl
                  have HW10 := Lib.hid (HW9.out.setby htr2 0 (o := tr) rfl)
                  have HKn : Hid ((∀ a u : Int, a ≠ (tr : Int) → updB had' tr k (decide (0 < (heldV s1 ↑k).length)) a u = had a u) ∧ (∀ u : Nat, u < k + 1 → updB had' tr k (decide (0 < (heldV s1 ↑k).length)) tr u = decide (0 < (heldV s1 u).length)) ∧ (0 < k + 1 → updI wh' tr 0 tr = 0) ∧ (∀ a, a ≠ (tr : Int) → updI wh' tr 0 a = wh a)) := Lib.hid (by
                    obtain ⟨k1, k2, k3, k4⟩ := HK.out
                    refine ⟨fun a u ha => ?_, fun u hu => ?_, fun _ => if_pos rfl, fun a ha => ?_⟩
                    · unfold updB; rw [if_neg (fun y => ha y.1)]; exact k1 a u ha
                    · unfold updB
                      by_cases e : u = k
                      · subst e; rw [if_pos ⟨rfl, rfl⟩]
                      · rw [if_neg (fun y => e (by have := y.2; omega))]; exact k2 u (by omega)
                    · unfold updI; rw [if_neg ha]; exact k4 a ha)
                  clear HR HK hS8 hS9 HH HC0 HS0 HW9 HB9 hb9
                  generalize decide (0 < (heldV s1 ↑k).length) = bb at *
                  go_wp2_with fail
                  go_roundw
                  case rel => exact ⟨k + 1, _, _, by omega, by go_num, HW10.out, HKn.out⟩
                  case measure => simp [intOf]; omega
              · obtain rfl : k = m := by omega
                have hd4 : decide ((k : Int) < (k : Int)) = false := by simp
                have HE : Hid (Wt s1 had' wh') := Lib.hid (HW1.out had' wh' HK.out.1 (fun u hu => by
                  obtain ⟨u0, u1, u2⟩ := hown.out u hu
                  obtain ⟨v', rfl⟩ : ∃ v' : Nat, u = v' := ⟨u.toNat, by omega⟩
                  rw [HK.out.2.1 v' (by omega)]
                  exact decide_eq_true u2) (HK.out.2.2.1 hm0) HK.out.2.2.2)
                clear HK HW1 hown
                go_wp2_with fail
                go_roundw
                case rel => exact ⟨j + 1, s1, now, O, ov7, had', wh', by omega, by omega, by go_num, HR.out, HE.out⟩
                case measure => simp [intOf]; omega
        · as_aux_lemma =>
            have hss0 : relR s tr run64 now = s := if_neg hre
            rw [hss0] at HST
            have HW0 : Hid (Wt s had wh) := by have := HWN.out hre; rw [hss0] at this; exact this
            obtain ⟨da, db, hdv⟩ := dead_or s tr
            rw [hdv] at HD0
            have HDD : Hid (∀ w', (∃ ov', WS w.heap.size w w' pb rb hb yb (.slice ta m tc) m (j + 1) s now O ov' had wh) → Calls Tryz.prog 17 #[.pointer (some ⟨rb, 0, none⟩), .int .i64 tr] w' (VB (.tuple #[.int .i64 da, .bool db]) w')) := Lib.hid (fun w' h => by
              obtain ⟨ov', h⟩ := h
              exact h.dead (tr : Int) hdv)
            clear hdv hti hy3i hss0 HWF HWN HPL HNN HTR HP HBr HQ hre
            go_wp2_with fail
            refine HD0.out.mono ?_
            rintro e w6 ⟨rfl, hb6⟩
            have HST6 := Lib.hid (HST.out _ hb6)
            clear hb6 HD0 HST
            go_wp2_with fail
            refine HST6.out.mono ?_
            rintro e w7 ⟨rfl, hws⟩
            have HD7 := Lib.hid (HDD.out _ hws)
            obtain ⟨ov7, hws⟩ := hws
            have HP7 := Lib.hid hws
            clear hws HST6 HDD
            go_wp2_with fail
            refine HD7.out.mono ?_
            rintro e w8 ⟨rfl, hb8⟩
            have HP8 := Lib.hid (HP7.out.below hb8)
            clear hb8 HD7 HP7
            cases db with
            | false =>
              go_wp2_with fail
              go_loopw [18] (fun i wi => i = .int .i64 0 ∧ wi = w8) (fun i _ => 0)
              case atStart => exact ⟨rfl, rfl⟩
              case round =>
                obtain ⟨rfl, rfl⟩ := hrel
                go_wp2_with fail
                go_roundw
                case rel => exact ⟨j + 1, s, now, O, ov7, had, wh, by omega, by omega, by go_num, HP8.out, HW0.out⟩
                case measure => simp [intOf]; omega
            | true =>
              go_wp2_with fail
              go_loopw [18] (fun i wi => i = .int .i64 0 ∧ wi = w8) (fun i _ => 0)
              case atStart => exact ⟨rfl, rfl⟩
              case round =>
                obtain ⟨rfl, rfl⟩ := hrel
                go_wp2_with fail
                go_roundw
                case rel => exact ⟨j + 1, s, now, O, ov7, had, wh, by omega, by omega, by go_num, HP8.out, HW0.out⟩
                case measure => simp [intOf]; omega
      · have hcases : (m = 0 ∧ y.tmod 3 = 0) ∨ (m = 0 ∧ y.tmod 3 ≠ 0) ∨ (0 < m ∧ y.tmod 3 ≠ 0) := by
          have := HP.out.ps.nn
          unfold isRel at hrl
          omega
        rcases hcases with ⟨hm0, hq1⟩ | ⟨hm0, hq1⟩ | ⟨hm0, hq1⟩
        · as_aux_lemma =>
            have hd3 : (y.tmod 3 == 0) = true := by simpa using hq1
            have hw : who s = none := by
              rcases who_goes HP.out.ps.hp with ⟨gw, hw, g⟩ | ⟨hw, _⟩
              · exfalso
                have := HP.out.ps.hp.goes_in g
                have := HP.out.ps.nn
                omega
              · exact hw
            subst hm0
            have hwv : whoV s = .tuple #[.int .i64 0, .bool false] := by unfold whoV; rw [hw]
            have HWH := Lib.hid (HP.out.who hwv)
            obtain ⟨da, db, hdv⟩ := dead_or s 0
            have HD0 := Lib.hid (fun w' (hbw : Below wr.heap.size wr w') => (HP.out.below hbw).dead 0 hdv)
            have HST : Hid (∀ w', Below wr.heap.size wr w' → Calls Tryz.prog 16 #[.pointer (some ⟨pb, 0, none⟩), .int .i64 y] w' (fun e w'' => e = .returned (.bool true) ∧ ∃ ov', WS w.heap.size w w'' pb rb hb yb (.slice ta 0 tc) 0 (j + 1) s (now + 1) O ov' had wh)) := by
              refine Lib.hid (fun w' hbw => ?_)
              have h1 := (HP.out.below hbw).step hl2 hbd.out.1 hbd.out.2
              rw [show stepS s now y = s by unfold stepS; rw [if_neg hrl, hw], show stepN s now y = now + 1 from if_neg hrl, show stepO s y O = O by unfold stepO; rw [if_neg hrl, hw]] at h1
              exact h1
            have HT1 : Hid (Wt s had wh) := HQ
            clear hdv hwv hw hrl HP HQ HBr
            go_wp2_with fail
            refine HWH.out.mono ?_
            rintro e w6 ⟨rfl, hb6⟩
            clear HWH
            go_wp2_with fail
            refine (HD0.out _ hb6).mono ?_
            rintro e w7 ⟨rfl, hb7⟩
            have HST2 := Lib.hid (HST.out _ (chn hb6 hb7))
            clear HD0 hb6 hb7 HST
            go_wp2_with fail
            go_loopw [23] (fun i wi => i = .int .i64 0 ∧ wi = w7) (fun i _ => 0)
            case atStart => exact ⟨rfl, rfl⟩
            case round =>
              obtain ⟨rfl, rfl⟩ := hrel
              go_wp2_with fail
              refine HST2.out.mono ?_
              rintro e w8 ⟨rfl, ov1, hws⟩
              have HS1 := Lib.hid hws
              clear hws HST2
              obtain ⟨s1, hs1⟩ : ∃ s1, s1 = s := ⟨_, rfl⟩
              rw [← hs1] at HS1 HT1
              clear hs1
              obtain ⟨now1, hn1⟩ : ∃ x, x = now + 1 := ⟨_, rfl⟩
              rw [← hn1] at HS1
              clear hn1
              obtain ⟨O1, hO1⟩ : ∃ x, x = O := ⟨_, rfl⟩
              rw [← hO1] at HS1
              clear hO1
              obtain ⟨wh1, hv1⟩ : ∃ x, x = wh := ⟨_, rfl⟩
              rw [← hv1] at HS1 HT1
              clear hv1
              go_wp2_with fail
              go_loopw [26] (fun i wi => i = .int .i64 0 ∧ wi = w8) (fun i _ => 0)
              case atStart => exact ⟨rfl, rfl⟩
              case round =>
                obtain ⟨rfl, rfl⟩ := hrel
                go_wp2_with fail
                go_roundw
                case rel => exact ⟨j + 1, s1, now1, O1, ov1, had, wh1, by omega, by omega, by go_num, HS1.out, HT1.out⟩
                case measure => simp [intOf]; omega
        · as_aux_lemma =>
            have hd3 : (y.tmod 3 == 0) = false := by simpa using hq1
            have hw : who s = none := by
              rcases who_goes HP.out.ps.hp with ⟨gw, hw, g⟩ | ⟨hw, _⟩
              · exfalso
                have := HP.out.ps.hp.goes_in g
                have := HP.out.ps.nn
                omega
              · exact hw
            subst hm0
            have hwv : whoV s = .tuple #[.int .i64 0, .bool false] := by unfold whoV; rw [hw]
            have HWH := Lib.hid (HP.out.who hwv)
            obtain ⟨da, db, hdv⟩ := dead_or s 0
            have HD0 := Lib.hid (fun w' (hbw : Below wr.heap.size wr w') => (HP.out.below hbw).dead 0 hdv)
            have HST : Hid (∀ w', Below wr.heap.size wr w' → Calls Tryz.prog 16 #[.pointer (some ⟨pb, 0, none⟩), .int .i64 y] w' (fun e w'' => e = .returned (.bool true) ∧ ∃ ov', WS w.heap.size w w'' pb rb hb yb (.slice ta 0 tc) 0 (j + 1) s (now + 1) O ov' had wh)) := by
              refine Lib.hid (fun w' hbw => ?_)
              have h1 := (HP.out.below hbw).step hl2 hbd.out.1 hbd.out.2
              rw [show stepS s now y = s by unfold stepS; rw [if_neg hrl, hw], show stepN s now y = now + 1 from if_neg hrl, show stepO s y O = O by unfold stepO; rw [if_neg hrl, hw]] at h1
              exact h1
            have HT1 : Hid (Wt s had wh) := HQ
            clear hdv hwv hw hrl HP HQ HBr
            go_wp2_with fail
            refine HWH.out.mono ?_
            rintro e w6 ⟨rfl, hb6⟩
            clear HWH
            go_wp2_with fail
            refine (HD0.out _ hb6).mono ?_
            rintro e w7 ⟨rfl, hb7⟩
            have HST2 := Lib.hid (HST.out _ (chn hb6 hb7))
            clear HD0 hb6 hb7 HST
            go_wp2_with fail
            go_loopw [23] (fun i wi => i = .int .i64 0 ∧ wi = w7) (fun i _ => 0)
            case atStart => exact ⟨rfl, rfl⟩
            case round =>
              obtain ⟨rfl, rfl⟩ := hrel
              go_wp2_with fail
              refine HST2.out.mono ?_
              rintro e w8 ⟨rfl, ov1, hws⟩
              have HS1 := Lib.hid hws
              clear hws HST2
              obtain ⟨s1, hs1⟩ : ∃ s1, s1 = s := ⟨_, rfl⟩
              rw [← hs1] at HS1 HT1
              clear hs1
              obtain ⟨now1, hn1⟩ : ∃ x, x = now + 1 := ⟨_, rfl⟩
              rw [← hn1] at HS1
              clear hn1
              obtain ⟨O1, hO1⟩ : ∃ x, x = O := ⟨_, rfl⟩
              rw [← hO1] at HS1
              clear hO1
              obtain ⟨wh1, hv1⟩ : ∃ x, x = wh := ⟨_, rfl⟩
              rw [← hv1] at HS1 HT1
              clear hv1
              go_wp2_with fail
              go_loopw [26] (fun i wi => i = .int .i64 0 ∧ wi = w8) (fun i _ => 0)
              case atStart => exact ⟨rfl, rfl⟩
              case round =>
                obtain ⟨rfl, rfl⟩ := hrel
                go_wp2_with fail
                go_roundw
                case rel => exact ⟨j + 1, s1, now1, O1, ov1, had, wh1, by omega, by omega, by go_num, HS1.out, HT1.out⟩
                case measure => simp [intOf]; omega
        · have hd3 : (y.tmod 3 == 0) = false := by simpa using hq1
          have hmg : decide ((0 : Int) < (m : Int)) = true := by simp; omega
          obtain ⟨gv, gb, hwv⟩ := who_or s
          obtain ⟨da, db, hdv⟩ := dead_or s gv
          have HWH := Lib.hid (HP.out.who hwv)
          have HD0 := Lib.hid (fun w' (hbw : Below wr.heap.size wr w') => (HP.out.below hbw).dead gv hdv)
          have HRL := Lib.hid hrl
          have HWV := Lib.hid hwv
          have HDV := Lib.hid hdv
          have HY := Lib.hid hbd.out
          clear hwv hdv hrl HBr
          go_wp2_with fail
          refine HWH.out.mono ?_
          rintro e w6 ⟨rfl, hb6⟩
          have HP6 := Lib.hid (HP.out.below hb6)
          have HD6 := Lib.hid (HD0.out _ hb6)
          clear HWH HD0 HP hb6
          go_wp2_with fail
          refine HD6.out.mono ?_
          rintro e w7 ⟨rfl, hb7⟩
          have HP7 := Lib.hid (HP6.out.below hb7)
          clear HD6 HP6 hb7
          go_upto_block 4 with fail
          go_cut [] from 123 to 187 (fun wc => Hid (∃ wh1, WS w.heap.size w wc pb rb hb yb (.slice ta m tc) m j s now O ov had wh1 ∧ Wt (stepS s now y) had wh1))
          case first =>
            rcases who_goes HP7.out.ps.hp with ⟨gw, hw, g⟩ | ⟨hw, _⟩
            · obtain ⟨g0, g1, ga⟩ := HP7.out.ps.hp.goes_in g
              obtain ⟨gn, rfl⟩ : ∃ k : Nat, gw = k := ⟨gw.toNat, by omega⟩
              have hgm : gn < m := by have := HP7.out.ps.nn; omega
              have hg4 : gn < 4 := by omega
              have hge : decide ((4 : Int) ≤ (gn : Int)) = false := by simp; omega
              have hwv2 : whoV s = .tuple #[.int .i64 gn, .bool true] := by unfold whoV; rw [hw]
              obtain ⟨rfl, rfl⟩ := tup2 (hwv2.symm.trans HWV.out)
              have hdv2 := dead_yes HP7.out.ps.hp.iv (asked_in ga).2.2
              obtain ⟨rfl, rfl⟩ := tup2 (hdv2.symm.trans HDV.out)
              have HT1 : Hid (Wt (stepS s now y) had (noteN s.dl gn wh m)) := by
                have h1 := Wt.go HP7.out.ps.hp g HQ.out HP7.out.ps.nn y
                rw [show stepS s now y = actS s gn y by unfold stepS; rw [if_neg HRL.out, hw]]
                exact Lib.hid h1
              have HGF : Hid (∀ t : Int, 0 ≤ s.dl t → s.dl t < s.dl gn → 0 < (heldV s gn).length ∧ had t gn = true ∧ (wh t = 0 ∨ wh t = gn + 1)) := Lib.hid (fun t a b => go_facts HP7.out.ps.hp g HQ.out a b)
              have HIV := Lib.hid HP7.out.ps.hp.iv
              have hgw : wrap64 ((gn : Int) + 1) = (gn : Int) + 1 := by have h := wrap_big (x := gn + 1) (by omega); simpa using h
              have hgi : IntKind.i64.wrap ((gn : Int) + 1) = (gn : Int) + 1 := by have h := iwrap_big (x := gn + 1) (by omega); simpa using h
              have HPa : Hid (WS w.heap.size w w7 pb rb hb yb (.slice ta m tc) m j s now O ov had (noteN s.dl gn wh 0)) := by rw [noteN_zero]; exact HP7.out
              clear g0 g1 ga hw HQ g hwv2 hdv2 HWV HDV HRL HP7
              generalize stepS s now y = sn at *
              go_wp2_with fail
              go_loopw [23] (fun i wi => ∃ (k : Nat), k ≤ m ∧ i = .int .i64 k ∧ Hid (WS w.heap.size w wi pb rb hb yb (.slice ta m tc) m j s now O ov had (noteN s.dl gn wh k))) (fun i _ => m - (intOf i).toNat)
              case atStart => exact ⟨0, Nat.zero_le _, rfl, HPa.out⟩
              case round =>
                clear HPa
                obtain ⟨k, hk, rfl, HR⟩ := hrel
                by_cases hlt2 : k < m
                · have hd4 : decide ((k : Int) < (m : Int)) = true := by simp; omega
                  have hk4 : k < 4 := by omega
                  by_cases hdk : 0 ≤ s.dl k
                  · have HDK := Lib.hid (HR.out.dead (k : Int) (dead_yes HIV.out hdk))
                    by_cases hlk : s.dl k < s.dl gn
                    · obtain ⟨f1, f2, f3⟩ := HGF.out k hdk hlk
                      have HYES : Hid (noteN s.dl gn wh (k + 1) = updI (noteN s.dl gn wh k) k (gn + 1)) := noteN_yes hdk hlk
                      have hne : ((k : Int) == (gn : Int)) = false := by
                        simp only [beq_eq_false_iff_ne, ne_eq]
                        intro e
                        rw [e] at hlk
                        exact absurd hlk (Int.lt_irrefl _)
                      have hge2 : decide (s.dl (gn : Int) ≤ s.dl (k : Int)) = false := by simp; omega
                      have HH := Lib.hid (fun w' (hbw : Below wr.heap.size wr w') => (HR.out.below hbw).held (gn : Int))
                      have HC0 := Lib.hid (fun w' (hbw : Below wr.heap.size wr w') => (HR.out.below hbw).hcell hk4 hg4 (o := k * 4 + gn) rfl)
                      have HY0 := Lib.hid (fun w' (hbw : Below wr.heap.size wr w') => (HR.out.below hbw).ycell hk4 (o := k) rfl)
                      have HSB := Lib.hid (fun w' (hbw : Below wr.heap.size wr w') => (HR.out.below hbw).setby hk4 ((gn : Int) + 1) (o := k) rfl)
                      rw [f2] at HC0
                      rw [noteN_at k] at HY0
                      rw [← HYES.out] at HSB
                      clear HYES hdk HGF
                      generalize s.dl (gn : Int) = dg at *
                      generalize s.dl (k : Int) = dk2 at *
                      go_wp2_with fail
                      refine HDK.out.mono ?_
                      rintro e w8 ⟨rfl, hb8⟩
                      have HB8 := Lib.hid hb8
                      have HH8 := Lib.hid (HH.out w8 HB8.out)
                      clear hb8 HDK HH HR
                      go_wp2_with fail
                      refine HH8.out.mono ?_
                      rintro e w9 ⟨r, rfl, hr, hb9⟩
                      obtain ⟨ra, rc, rfl, hr1, _⟩ := (St.NR.is hr).slice
                      have HB9 := Lib.hid (chn HB8.out hb9)
                      have c1 := (HC0.out w9 HB9.out).1
                      obtain ⟨y1, y2⟩ := HY0.out w9 HB9.out
                      have HS9 := Lib.hid (HSB.out w9 HB9.out)
                      clear hr hr1 hb9 HB8 HB9 HC0 HY0 HSB HH8 f2
                      generalize (heldV s ↑gn).length = hlen at *
                      have hl0 : ((hlen : Int) == 0) = false := by simp; omega
                      have hi1 : (0 : Int) ≤ (k : Int) := by omega
                      have hi2 : ((k : Int) < 4) := by omega
                      have hi3 : (0 : Int) ≤ (gn : Int) := by omega
                      have hi4 : ((gn : Int) < 4) := by omega
                      have hz : ((gn : Int) + 1 == 0) = false := by simp; omega
                      rcases f3 with f3 | f3
                      all_goals
                        rw [f3] at y1
                        clear f3 f1
                        go_wp2_with fail
                        go_roundw
                        case rel => exact ⟨k + 1, by omega, by go_num, HS9.out⟩
                        case measure => simp [intOf]; omega
                    · have HNO : Hid (noteN s.dl gn wh (k + 1) = noteN s.dl gn wh k) := noteN_no (fun y => hlk y.2)
                      have hge2 : decide (s.dl (gn : Int) ≤ s.dl (k : Int)) = true := by simp; omega
                      clear hdk hlk
                      go_wp2_with fail
                      refine HDK.out.mono ?_
                      rintro e w8 ⟨rfl, hb8⟩
                      have HR8 : Hid (WS w.heap.size w w8 pb rb hb yb (.slice ta m tc) m j s now O ov had (noteN s.dl gn wh (k + 1))) := by rw [HNO.out]; exact HR.out.below hb8
                      clear hb8 HDK HR HNO
                      go_wp2_with fail
                      go_roundw
                      case rel => exact ⟨k + 1, by omega, by go_num, HR8.out⟩
                      case measure => simp [intOf]; omega
                  · have HDK := Lib.hid (HR.out.dead (k : Int) (dead_no hdk))
                    have HNO : Hid (noteN s.dl gn wh (k + 1) = noteN s.dl gn wh k) := noteN_no (fun y => hdk y.1)
                    clear hdk
                    go_wp2_with fail
                    refine HDK.out.mono ?_
                    rintro e w8 ⟨rfl, hb8⟩
                    have HR8 : Hid (WS w.heap.size w w8 pb rb hb yb (.slice ta m tc) m j s now O ov had (noteN s.dl gn wh (k + 1))) := by rw [HNO.out]; exact HR.out.below hb8
                    clear hb8 HDK HR HNO
                    go_wp2_with fail
                    go_roundw
                    case rel => exact ⟨k + 1, by omega, by go_num, HR8.out⟩
                    case measure => simp [intOf]; omega
                · obtain rfl : m = k := by omega
                  have hd4 : decide ((m : Int) < (m : Int)) = false := by simp
                  go_wp2_with fail
                  go_meet
                  case rel => exact Lib.hid ⟨_, HR.out, HT1.out⟩
            · have hwv2 : whoV s = .tuple #[.int .i64 0, .bool false] := by unfold whoV; rw [hw]
              obtain ⟨rfl, rfl⟩ := tup2 (hwv2.symm.trans HWV.out)
              have HT1 : Hid (Wt (stepS s now y) had wh) := by
                rw [show stepS s now y = s by unfold stepS; rw [if_neg HRL.out, hw]]
                exact HQ
              clear hw HQ hwv2 HWV HDV HRL
              go_wp2_with fail
              go_loopw [23] (fun i wi => i = .int .i64 0 ∧ wi = w7) (fun i _ => 0)
              case atStart => exact ⟨rfl, rfl⟩
              case round =>
                obtain ⟨rfl, rfl⟩ := hrel
                go_wp2_with fail
                go_meet
                case rel => exact Lib.hid ⟨_, HP7.out, HT1.out⟩
          case rest =>
            clear HP7 HQ HWV HDV HRL
            obtain ⟨wh1, hws, hwt⟩ := hcut.out
            have HSTEP := Lib.hid (hws.step hl2 HY.out.1 HY.out.2)
            have HT1 := Lib.hid hwt
            clear hws hwt hcut HY
            generalize stepS s now y = s1 at *
            generalize stepN s now y = now1 at *
            generalize stepO s y O = O1 at *
            go_wp2_with fail
            refine HSTEP.out.mono ?_
            rintro e w8 ⟨rfl, ov1, hws⟩
            have HS1 := Lib.hid hws
            clear hws HSTEP
            go_wp2_with fail
            go_loopw [26] (fun i wi => ∃ (k : Nat) (had' : Int → Int → Bool), k ≤ m ∧ i = .int .i64 k ∧ Hid (WS w.heap.size w wi pb rb hb yb (.slice ta m tc) m (j + 1) s1 now1 O1 ov1 had' wh1) ∧ Hid (Wt s1 had' wh1)) (fun i _ => m - (intOf i).toNat)
            case atStart => exact ⟨0, _, Nat.zero_le _, rfl, HS1.out, HT1.out⟩
            case round =>
              clear HS1 HT1
              obtain ⟨k, had', hk, rfl, HR, HE⟩ := hrel
              by_cases hlt2 : k < m
              · have hd4 : decide ((k : Int) < (m : Int)) = true := by simp; omega
                have hk4 : k < 4 := by omega
                go_wp2_with fail
                go_loopw [27] (fun i wi => ∃ (u : Nat) (had' : Int → Int → Bool), u ≤ m ∧ i = .int .i64 u ∧ Hid (WS w.heap.size w wi pb rb hb yb (.slice ta m tc) m (j + 1) s1 now1 O1 ov1 had' wh1) ∧ Hid (Wt s1 had' wh1)) (fun i _ => m - (intOf i).toNat)
                case atStart => exact ⟨0, _, Nat.zero_le _, rfl, HR.out, HE.out⟩
                case round =>
                  clear HR HE
                  rename_i wq _
                  obtain ⟨u, had', hu, rfl, HR, HE⟩ := hrel
                  by_cases hlt3 : u < m
                  · have hd5 : decide ((u : Int) < (m : Int)) = true := by simp; omega
                    have hu4 : u < 4 := by omega
                    have HH := Lib.hid (fun w' (hbw : Below wr.heap.size wr w') => (HR.out.below hbw).held (u : Int))
                    have HC0 := Lib.hid (fun w' (hbw : Below wr.heap.size wr w') => (HR.out.below hbw).hcell hk4 hu4 (o := k * 4 + u) rfl)
                    have HSET := Lib.hid (fun w' (hbw : Below wr.heap.size wr w') (b : Bool) => (HR.out.below hbw).sethad hk4 hu4 b (o := k * 4 + u) rfl)
                    have HKP := Lib.hid (fun (b : Bool) => Wt.keep1 HR.out.ps.hp.iv HE.out (k : Int) (u : Int) b)
                    have hi1 : (0 : Int) ≤ (k : Int) := by omega
                    have hi2 : ((k : Int) < 4) := by omega
                    have hi3 : (0 : Int) ≤ (u : Int) := by omega
                    have hi4 : ((u : Int) < 4) := by omega
                    obtain ⟨hv, hhv⟩ : ∃ b, b = had' k u := ⟨_, rfl⟩
                    rw [← hhv] at HC0 HKP
                    clear hhv
                    have S0 := HC0.out wr (Below.refl _ _)
                    have HS0 := Lib.hid S0
                    clear S0 HR
                    have mixed : Tryz.prog.follows .mixedOrders = true := by kernel_rfl
                    cases hv with
                    | false =>
                      have HW := Lib.hid (fun w' hbw => HSET.out w' hbw false)
                      have HT := Lib.hid (HKP.out false (fun y => by cases y))
                      clear HSET HKP HH HC0 HE
                      go_wp2_with fail
                      refine wp_region_held_drew (S := fun w' => w'.frozen? ⟨hb, k * 4 + u, none⟩ = false) (by kernel_rfl) (by exact HS0.out.2) (fun hHeld => ?_)
                      refine wpAnyH_take (i := 0) (oi := _) (v := ?_) rfl (by kernel_rfl) (by kernel_rfl) (by kernel_rfl) (fun _ _ _ h => h) (Or.inl ⟨by rfl, ?_⟩) (by assumption) ?_; rotate_left
                      · (intro w hSw; (try dsimp only at hSw); go_simp; try with_reducible rfl)
                      try simp only [Act.put, List.setIfInBounds_toArray]
                      refine wpAnyH_take (i := 1) (oi := _) (v := ?_) rfl (by kernel_rfl) (by kernel_rfl) (by kernel_rfl) (fun _ _ _ h => h) (Or.inl ⟨by rfl, ?_⟩) (by assumption) ?_; rotate_left
                      · (intro w hSw; (try dsimp only at hSw); go_simp; try with_reducible rfl)
                      try simp only [Act.put]
                      refine wpAnyH_take (i := 2) (oi := _) (v := ?_) rfl (by kernel_rfl) (by kernel_rfl) (by kernel_rfl) (fun _ _ _ h => h) (Or.inl ⟨by rfl, ?_⟩) (by assumption) ?_; rotate_left
                      · (intro w hSw; (try dsimp only at hSw); go_simp; try with_reducible rfl)
                      try simp only [Act.put]
                      refine wpAnyH_take (i := 3) (oi := _) (v := ?_) rfl (by kernel_rfl) (by kernel_rfl) (by kernel_rfl) (fun _ _ _ h => h) (Or.inl ⟨by rfl, ?_⟩) (by assumption) ?_; rotate_left
                      · (intro w hSw; (try dsimp only at hSw); go_simp; try with_reducible rfl)
                      try simp only [Act.put]
                      refine wpAnyH_take (i := 4) (oi := _) (v := ?_) rfl (by kernel_rfl) (by kernel_rfl) (by kernel_rfl) (fun _ _ _ h => h) (Or.inl ⟨by rfl, ?_⟩) (by assumption) ?_; rotate_left
                      · (intro w hSw; (try dsimp only at hSw); go_simp; try with_reducible rfl)
                      try simp only [Act.put]
                      refine wpAnyH_take (i := 5) (oi := _) (v := ?_) rfl (by kernel_rfl) (by kernel_rfl) (by kernel_rfl) (fun _ _ _ h => h) (Or.inl ⟨by rfl, ?_⟩) (by assumption) ?_; rotate_left
                      · (intro w hSw; (try dsimp only at hSw); go_simp; try with_reducible rfl)
                      try simp only [Act.put]
                      refine wpAnyH_take (i := 14) (oi := _) (v := ?_) rfl (by kernel_rfl) (by kernel_rfl) (by kernel_rfl) (fun _ _ _ h => h) (Or.inl ⟨by rfl, ?_⟩) (by assumption) ?_; rotate_left
                      · (intro w hSw; (try dsimp only at hSw); go_simp; try with_reducible rfl)
                      try simp only [Act.put]
                      refine wpAnyH_ready (rs := [6]) (by kernel_rfl) (by simp) (AllReadyH.cons (o := _) rfl (fun K hK => ?_) AllReadyH.nil)
                      have c0 : wr.drew.cell? ⟨hb, k * 4 + u, none⟩ = some (.bool false) := HS0.out.1
                      have f0 : wr.frozen? ⟨hb, k * 4 + u, none⟩ = false := HS0.out.2
                      go_simp
                      refine hK.out _ _ (by exact hHeld) (fun hHeld => ?_)
                      clear hK K
                      try simp only [Act.put, List.setIfInBounds_toArray, List.set_cons_zero, List.set_cons_succ]
                      refine wpAnyH_take (i := 7) (oi := _) (v := ?_) rfl (by kernel_rfl) (by kernel_rfl) (by kernel_rfl) (fun _ _ _ h => h) (Or.inl ⟨by rfl, ?_⟩) (by assumption) ?_; rotate_left
                      · (intro w hSw; (try dsimp only at hSw); go_simp; try with_reducible rfl)
                      try simp only [Act.put, List.setIfInBounds_toArray]
                      refine wpAnyH_take (i := 8) (oi := _) (v := undef) rfl (by kernel_rfl) (by kernel_rfl) (by kernel_rfl) (fun _ _ _ h => h) (Or.inr ⟨by rfl, rfl⟩) (by assumption) ?_
                      try simp only [Act.put]
                      refine wpAnyH_take (i := 9) (oi := _) (v := undef) rfl (by kernel_rfl) (by kernel_rfl) (by kernel_rfl) (fun _ _ _ h => h) (Or.inr ⟨by rfl, rfl⟩) (by assumption) ?_
                      try simp only [Act.put]
                      refine wpAnyH_take (i := 10) (oi := _) (v := undef) rfl (by kernel_rfl) (by kernel_rfl) (by kernel_rfl) (fun _ _ _ h => h) (Or.inr ⟨by rfl, rfl⟩) (by assumption) ?_
                      try simp only [Act.put]
                      refine wpAnyH_take (i := 11) (oi := _) (v := undef) rfl (by kernel_rfl) (by kernel_rfl) (by kernel_rfl) (fun _ _ _ h => h) (Or.inr ⟨by rfl, rfl⟩) (by assumption) ?_
                      try simp only [Act.put]
                      refine wpAnyH_take (i := 12) (oi := _) (v := undef) rfl (by kernel_rfl) (by kernel_rfl) (by kernel_rfl) (fun _ _ _ h => h) (Or.inr ⟨by rfl, rfl⟩) (by assumption) ?_
                      try simp only [Act.put]
                      refine wpAnyH_take (i := 13) (oi := _) (v := ?_) rfl (by kernel_rfl) (by kernel_rfl) (by kernel_rfl) (fun _ _ _ h => h) (Or.inl ⟨by rfl, ?_⟩) (by assumption) ?_; rotate_left
                      · (intro w hSw; (try dsimp only at hSw); go_simp; try with_reducible rfl)
                      try simp only [Act.put]
                      refine wpAnyH_take (i := 15) (oi := _) (v := ?_) rfl (by kernel_rfl) (by kernel_rfl) (by kernel_rfl) (fun _ _ _ h => h) (Or.inl ⟨by rfl, ?_⟩) (by assumption) ?_; rotate_left
                      · (intro w hSw; (try dsimp only at hSw); go_simp; try with_reducible rfl)
                      try simp only [Act.put]
                      refine wpAnyH_ready (rs := [16]) (by kernel_rfl) (by simp) (AllReadyH.cons (o := _) rfl (fun K hK => ?_) AllReadyH.nil)
                      go_simp
                      refine hK.out _ _ (by (try dsimp only); first | assumption | go_keep) (fun hHeld => ?_)
                      clear hK K
                      try simp only [Act.put, List.setIfInBounds_toArray, List.set_cons_zero, List.set_cons_succ]
                      refine wpAnyH_done (by kernel_rfl) ?_ _
                      have HR2 := Lib.hid (HW.out wr.drew (below_drew (Below.refl _ _)))
                      clear HW HS0 c0 f0
                      go_wp2_with fail
                      go_roundw
                      case rel => exact ⟨u + 1, _, by omega, by go_num, HR2.out, HT.out⟩
                      case measure => simp [intOf]; omega
                    | true =>
                      have HL0 : Hid (0 < (heldV s1 ↑u).length → Wt s1 (updB had' ↑k ↑u (decide (0 < (heldV s1 ↑u).length))) wh1) := Lib.hid (fun y => HKP.out _ (fun _ _ => decide_eq_true y))
                      have HKP2 : Hid (Wt s1 (updB had' ↑k ↑u (decide (0 < (heldV s1 ↑u).length))) wh1) := Lib.hid (HKP.out _ (fun _ y => decide_eq_true y))
                      clear HKP HE HL0
                      go_wp2_with fail
                      refine wp_region_held_drew (S := fun w' => w'.frozen? ⟨hb, k * 4 + u, none⟩ = false) (by kernel_rfl) (by exact HS0.out.2) (fun hHeld => ?_)
                      refine wpAnyH_take (i := 0) (oi := _) (v := ?_) rfl (by kernel_rfl) (by kernel_rfl) (by kernel_rfl) (fun _ _ _ h => h) (Or.inl ⟨by rfl, ?_⟩) (by assumption) ?_; rotate_left
                      · (intro w hSw; (try dsimp only at hSw); go_simp; try with_reducible rfl)
                      try simp only [Act.put, List.setIfInBounds_toArray]
                      refine wpAnyH_take (i := 1) (oi := _) (v := ?_) rfl (by kernel_rfl) (by kernel_rfl) (by kernel_rfl) (fun _ _ _ h => h) (Or.inl ⟨by rfl, ?_⟩) (by assumption) ?_; rotate_left
                      · (intro w hSw; (try dsimp only at hSw); go_simp; try with_reducible rfl)
                      try simp only [Act.put]
                      refine wpAnyH_take (i := 2) (oi := _) (v := ?_) rfl (by kernel_rfl) (by kernel_rfl) (by kernel_rfl) (fun _ _ _ h => h) (Or.inl ⟨by rfl, ?_⟩) (by assumption) ?_; rotate_left
                      · (intro w hSw; (try dsimp only at hSw); go_simp; try with_reducible rfl)
                      try simp only [Act.put]
                      refine wpAnyH_take (i := 3) (oi := _) (v := ?_) rfl (by kernel_rfl) (by kernel_rfl) (by kernel_rfl) (fun _ _ _ h => h) (Or.inl ⟨by rfl, ?_⟩) (by assumption) ?_; rotate_left
                      · (intro w hSw; (try dsimp only at hSw); go_simp; try with_reducible rfl)
                      try simp only [Act.put]
                      refine wpAnyH_take (i := 4) (oi := _) (v := ?_) rfl (by kernel_rfl) (by kernel_rfl) (by kernel_rfl) (fun _ _ _ h => h) (Or.inl ⟨by rfl, ?_⟩) (by assumption) ?_; rotate_left
                      · (intro w hSw; (try dsimp only at hSw); go_simp; try with_reducible rfl)
                      try simp only [Act.put]
                      refine wpAnyH_take (i := 5) (oi := _) (v := ?_) rfl (by kernel_rfl) (by kernel_rfl) (by kernel_rfl) (fun _ _ _ h => h) (Or.inl ⟨by rfl, ?_⟩) (by assumption) ?_; rotate_left
                      · (intro w hSw; (try dsimp only at hSw); go_simp; try with_reducible rfl)
                      try simp only [Act.put]
                      refine wpAnyH_take (i := 14) (oi := _) (v := ?_) rfl (by kernel_rfl) (by kernel_rfl) (by kernel_rfl) (fun _ _ _ h => h) (Or.inl ⟨by rfl, ?_⟩) (by assumption) ?_; rotate_left
                      · (intro w hSw; (try dsimp only at hSw); go_simp; try with_reducible rfl)
                      try simp only [Act.put]
                      refine wpAnyH_ready (rs := [6]) (by kernel_rfl) (by simp) (AllReadyH.cons (o := _) rfl (fun K hK => ?_) AllReadyH.nil)
                      have c0 : wr.drew.cell? ⟨hb, k * 4 + u, none⟩ = some (.bool true) := HS0.out.1
                      go_simp
                      refine hK.out _ _ (by exact hHeld) (fun hHeld => ?_)
                      clear hK K c0
                      try simp only [Act.put, List.setIfInBounds_toArray, List.set_cons_zero, List.set_cons_succ]
                      refine wpAnyH_take (i := 7) (oi := _) (v := ?_) rfl (by kernel_rfl) (by kernel_rfl) (by kernel_rfl) (fun _ _ _ h => h) (Or.inl ⟨by rfl, ?_⟩) (by assumption) ?_; rotate_left
                      · (intro w hSw; (try dsimp only at hSw); go_simp; try with_reducible rfl)
                      try simp only [Act.put, List.setIfInBounds_toArray]
                      refine wpAnyH_take (i := 8) (oi := _) (v := ?_) rfl (by kernel_rfl) (by kernel_rfl) (by kernel_rfl) (fun _ _ _ h => h) (Or.inl ⟨by rfl, ?_⟩) (by assumption) ?_; rotate_left
                      · (intro w hSw; (try dsimp only at hSw); go_simp; try with_reducible rfl)
                      try simp only [Act.put]
                      refine wpAnyH_take (i := 9) (oi := _) (v := ?_) rfl (by kernel_rfl) (by kernel_rfl) (by kernel_rfl) (fun _ _ _ h => h) (Or.inl ⟨by rfl, ?_⟩) (by assumption) ?_; rotate_left
                      · (intro w hSw; (try dsimp only at hSw); go_simp; try with_reducible rfl)
                      try simp only [Act.put]
                      refine wpAnyH_ready (rs := [10]) (by kernel_rfl) (by simp) (AllReadyH.cons (o := _) rfl (fun K hK => ?_) AllReadyH.nil)
                      go_simp
                      go_at_call 18
                      (try dsimp only at hHeld)
                      refine (HH.out _ (below_drew (Below.refl _ _))).mono ?_
                      rintro e w9 ⟨r, rfl, hr, hb9⟩
                      obtain ⟨ra, rc, rfl, hr1, _⟩ := (St.NR.is hr).slice
                      have HB9 : Hid (Below wr.heap.size wr w9) := Lib.hid (chn (below_drew (Below.refl _ _)) hb9)
                      obtain ⟨c9, hS9⟩ := HC0.out w9 HB9.out
                      clear hr hr1 hb9
                      refine hK.out _ _ (by exact hS9) (fun hHeld => ?_)
                      clear hK K
                      try simp only [Act.put, List.setIfInBounds_toArray, List.set_cons_zero, List.set_cons_succ]
                      refine wpAnyH_take (i := 11) (oi := _) (v := ?_) rfl (by kernel_rfl) (by kernel_rfl) (by kernel_rfl) (fun _ _ _ h => h) (Or.inl ⟨by rfl, ?_⟩) (by assumption) ?_; rotate_left
                      · (intro w hSw; (try dsimp only at hSw); go_simp; try with_reducible rfl)
                      try simp only [Act.put, List.setIfInBounds_toArray]
                      refine wpAnyH_take (i := 12) (oi := _) (v := ?_) rfl (by kernel_rfl) (by kernel_rfl) (by kernel_rfl) (fun _ _ _ h => h) (Or.inl ⟨by rfl, ?_⟩) (by assumption) ?_; rotate_left
                      · (intro w hSw; (try dsimp only at hSw); go_simp; try with_reducible rfl)
                      try simp only [Act.put]
                      refine wpAnyH_take (i := 13) (oi := _) (v := ?_) rfl (by kernel_rfl) (by kernel_rfl) (by kernel_rfl) (fun _ _ _ h => h) (Or.inl ⟨by rfl, ?_⟩) (by assumption) ?_; rotate_left
                      · (intro w hSw; (try dsimp only at hSw); go_simp; try with_reducible rfl)
                      try simp only [Act.put]
                      refine wpAnyH_take (i := 15) (oi := _) (v := ?_) rfl (by kernel_rfl) (by kernel_rfl) (by kernel_rfl) (fun _ _ _ h => h) (Or.inl ⟨by rfl, ?_⟩) (by assumption) ?_; rotate_left
                      · (intro w hSw; (try dsimp only at hSw); go_simp; try with_reducible rfl)
                      try simp only [Act.put]
                      refine wpAnyH_ready (rs := [16]) (by kernel_rfl) (by simp) (AllReadyH.cons (o := _) rfl (fun K hK => ?_) AllReadyH.nil)
                      go_simp
                      refine hK.out _ _ (by (try dsimp only); first | assumption | go_keep) (fun hHeld => ?_)
                      clear hK K
                      try simp only [Act.put, List.setIfInBounds_toArray, List.set_cons_zero, List.set_cons_succ]
                      refine wpAnyH_done (by kernel_rfl) ?_ _
                      have HR2 := Lib.hid (HSET.out w9 HB9.out (decide (0 < (heldV s1 ↑u).length)))
                      clear HSET HB9 HC0 HS0 HH hS9 c9 hHeld
                      generalize decide (0 < (heldV s1 ↑u).length) = bb at *
                      go_wp2_with fail
                      go_roundw
                      case rel => exact ⟨u + 1, _, by omega, by go_num, HR2.out, HKP2.out⟩
                      case measure => simp [intOf]; omega
                  · obtain rfl : u = m := by omega
                    have hd5 : decide ((u : Int) < (u : Int)) = false := by simp
                    go_wp2_with fail
                    go_roundw
                    case rel => exact ⟨k + 1, had', by omega, by go_num, HR.out, HE.out⟩
                    case measure => simp [intOf]; omega
              · obtain rfl : k = m := by omega
                have hd4 : decide ((k : Int) < (k : Int)) = false := by simp
                go_wp2_with fail
                go_roundw
                case rel => exact ⟨j + 1, s1, now1, O1, ov1, had', wh1, by omega, by omega, by go_num, HR.out, HE.out⟩
                case measure => simp [intOf]; omega
    · have HL : Hid (Below w.heap.size w wr) := HBr
      have HWK := Lib.hid (works_any Q0 wr)
      clear HP HQ HBr
      rcases (show (j < N ∧ ¬ j < 150) ∨ ¬ j < N by omega) with ⟨q1, q2⟩ | q1
      · have hd1 : decide ((j : Int) < (N : Int)) = true := by simp; omega
        have hd2 : decide ((j : Int) < 150) = false := by simp; omega
        go_wp2_with fail
        refine HWK.out.mono ?_
        rintro e w5 ⟨rfl, hb5⟩
        have HB5 : Hid (Below w.heap.size w w5) := HL.out.trans (hb5.mono HL.out.size)
        clear hb5 HWK HL
        go_wp2_with fail
        go_ret
        exact ⟨rfl, HB5.out⟩
      · have hd1 : decide ((j : Int) < (N : Int)) = false := by simp; omega
        go_wp2_with fail
        refine HWK.out.mono ?_
        rintro e w5 ⟨rfl, hb5⟩
        have HB5 : Hid (Below w.heap.size w w5) := HL.out.trans (hb5.mono HL.out.size)
        clear hb5 HWK HL
        go_wp2_with fail
        go_ret
        exact ⟨rfl, HB5.out⟩
end Go.Proofs.YtkkmfpllgjoceaaGreat.Ro
