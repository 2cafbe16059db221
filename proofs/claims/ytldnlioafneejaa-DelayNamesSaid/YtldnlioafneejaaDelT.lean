/- DelayGrows. -/
import Derived.Test.YtldnlioafneejaaDelS
import Derived.BigQuiet
namespace Go.Proofs.Ytldnlioafneejaa
open Go.RowKit Tk De Dl
set_option linter.unusedVariables false

theorem part_lit (w : World) {q : Pn} {ob : Option Addr} {oc : Nat} (ht : TK w (.slice ob q.n oc) q.n q.z) (hn : q.n ≤ 2199023255552) :
    PS (w.alloc (.cells #[.int .i64 q.per, .int .i64 q.bud, .slice ob q.n oc] 35)) (.slice (some ⟨w.heap.size, 0, none⟩) 1 1) [q] := by
  have hb := (Below.refl w.heap.size w).alloc (Nat.le_refl _) (.cells #[.int .i64 q.per, .int .i64 q.bud, .slice ob q.n oc] 35)
  have hk := heap_alloc_new w (.cells #[.int .i64 q.per, .int .i64 q.bud, .slice ob q.n oc] 35)
  refine ps_of (l := [(q, .slice ob q.n oc)]) (fun j u hj => ?_) (fun i hi => ?_) (Nat.le_refl 1) (by decide)
  · rw [cell_of_row _ _ j _ _ _ hk]
    rw [← List.getElem?_toArray] at hj
    exact hj
  · match i, hi with
    | 0, _ => exact ⟨ht.below hb, hn⟩
set_option maxRecDepth 100000 in
set_option maxHeartbeats 16000000 in
theorem grows_law {w : World} {v : Value} {ps : List Pn} {q : Pn} {ob : Option Addr} {oc : Nat} (h : PS w v ps) (ht : TK w (.slice ob q.n oc) q.n q.z) (hn : q.n ≤ 2199023255552) (t : Int) :
    Calls Try.prog 5 #[v, .agg #[.int .i64 q.per, .int .i64 q.bud, .slice ob q.n oc], .int .i64 t] w (TrueB w) := by
  obtain ⟨va, vc, rfl, _, _⟩ := h.slice
  have HP := Lib.hid h; have HT := Lib.hid ht; have HN := Lib.hid hn
  have HOK := Lib.hid (ml_ok (ps := ps) (most := 3) (by decide))
  have HLL : Hid ((ml ps 3).length ≤ 3) := by unfold Hid; rw [ml_len]; omega
  have HMX : Hid (ml [q] 1 = [mk q]) := rfl
  have HX := Lib.hid (mk_ok q)
  have HM3 := Lib.hid (fun W (b : Below w.heap.size w W) => made_any (h.below b) 3 (by decide))
  generalize ml ps 3 = L at *
  generalize ps.length = pl at *
  obtain ⟨X, hX⟩ : ∃ X, X = mk q := ⟨_, rfl⟩
  rw [← hX] at HMX HX
  clear hX
  have BT := Lib.hid (fun w => bring_bn t 70 w (by decide) (by decide))
  generalize bn t 70 = T at *
  have hbx := heap_alloc_new w (.cells #[.int .i64 q.per, .int .i64 q.bud, .slice ob q.n oc] 35)
  have HBX := Lib.hid hbx
  have HB0 := Lib.hid ((Below.refl w.heap.size w).alloc (Nat.le_refl _) (.cells #[.int .i64 q.per, .int .i64 q.bud, .slice ob q.n oc] 35))
  have HW0 := Lib.hid (works_any (w.alloc (.cells #[.int .i64 q.per, .int .i64 q.bud, .slice ob q.n oc] 35)))
  have mixed : Try.prog.follows .mixedOrders = true := by kernel_rfl
  clear h ht hn hbx
  go_enter Try.func5, Try.ntmps5
  go_wp2_with fail
  refine HW0.out.mono ?_
  rintro e w1 ⟨rfl, hb⟩
  have B1 := Lib.hid (chn HB0.out hb)
  have K1 := Lib.hid ((hb.block _ (lt_of_block HBX.out)).trans HBX.out)
  clear hb HW0 HB0 HBX
  go_wp2_with fail
  refine (HM3.out _ B1.out).mono ?_
  rintro e w2 ⟨r, rfl, hpw, hb⟩
  have B2 := Lib.hid (chn B1.out hb)
  have K2 := Lib.hid ((hb.block _ (lt_of_block K1.out)).trans K1.out)
  have PW2 := Lib.hid hpw
  obtain ⟨ra, rc, rfl, _, _⟩ := hpw.ps.slice
  obtain ⟨n, hn⟩ : ∃ n, n = L.length := ⟨_, rfl⟩
  have HNL := Lib.hid hn
  rw [← hn] at PW2 ⊢
  have hn3 : n ≤ 3 := by rw [hn]; exact HLL.out
  have x0 : w2.cell? ⟨w.heap.size, 0, none⟩ = some (.int .i64 q.per) := cell_of_row _ _ 0 _ _ _ K2.out
  have x1 : w2.cell? ⟨w.heap.size, 1, none⟩ = some (.int .i64 q.bud) := cell_of_row _ _ 1 _ _ _ K2.out
  have x2 : w2.cell? ⟨w.heap.size, 2, none⟩ = some (.slice ob q.n oc) := cell_of_row _ _ 2 _ _ _ K2.out
  have hlit := part_lit w2 (HT.out.below B2.out) HN.out
  have HMK := Lib.hid (made_any hlit 1 (by decide))
  rw [HMX.out] at HMK
  have BL := Lib.hid ((Below.refl w2.heap.size w2).alloc (Nat.le_refl _) (.cells #[.int .i64 q.per, .int .i64 q.bud, .slice ob q.n oc] 35))
  clear hb hpw hn hlit B1 K1 HM3
  go_wp2_with fail
  refine HMK.out.mono ?_
  rintro e w3 ⟨r2, rfl, hpw, hb⟩
  have hb3 : Below w2.heap.size w2 w3 := BL.out.trans (hb.mono BL.out.size)
  have B3 := Lib.hid (chn B2.out hb3)
  have PW3 := Lib.hid (PW2.out.old hb3)
  have PX3 := Lib.hid hpw
  obtain ⟨xa, xc, hr2, _, _⟩ := hpw.ps.slice
  rw [show [X].length = 1 from rfl] at hr2
  subst hr2
  clear hb hb3 hpw HMK BL x0 x1 x2 K2 B2 PW2 HT HP
  go_wp2_with fail
  refine (BT.out _).mono ?_
  rintro e w' ⟨rfl, rfl⟩
  obtain ⟨v1, W1, v2, W2, a2, c2, hv2, r1, r2, hbig, hbb, a1, c1, hv1⟩ := big_facts PW3.out PX3.out (by show L.length + 1 ≤ 8; have := HLL.out; omega) 22 22
  rw [← HNL.out] at hv1 hv2
  have hv2' : v2 = .slice a2 (n + 1) c2 := hv2
  have R1 := Lib.hid r1; have R2 := Lib.hid r2
  have PL := Lib.hid (PW3.out.ps.below hbb); have PX := Lib.hid (PX3.out.ps.below hbb); have PB := Lib.hid hbig
  have BW := Lib.hid (chn B3.out hbb)
  have HOB := Lib.hid (app_ok HOK.out HLL.out HX.out)
  clear r1 r2 hbig hbb hv2 BT PW3 PX3 B3
  subst hv1 hv2'
  go_wp2_with (first
    | (at_builtin; refine wpList_append_eq rfl (.tmp 38) (.tmp 39) 22 22 rfl _ _ _ _ rfl rfl R1.out ?_)
    | (at_builtin; refine wpList_append_eq rfl (.tmp 40) (.tmp 41) 22 22 rfl _ _ _ _ rfl rfl R2.out ?_))
  clear R1 R2
  have hnx : n ≤ 9223372036854775807 := by omega
  go_loopw [9] (fun i wr => ∃ k : Nat, k ≤ n ∧ i = .int .i64 k ∧ Hid (Below W2.heap.size W2 wr)) (fun i _ => n - (intOf i).toNat)
  case atStart => exact ⟨0, by omega, rfl, Below.refl _ _⟩
  case round =>
    obtain ⟨i, hi, rfl, HW⟩ := hrel
    obtain ⟨wo, rfl⟩ : ∃ wo, wo = wr := ⟨_, rfl⟩
    by_cases hlt : i < n
    · have hil : i < L.length := by rw [← HNL.out]; exact hlt
      have hiI : (i : Int) < n := by omega
      have hiB : (i : Int) < n + 1 := by omega
      have hi0 : (0 : Int) ≤ i := by omega
      have hil2 : i < (L ++ [X]).length := by rw [List.length_append, List.length_singleton]; omega
      have hgd : (L ++ [X]).getD i p0 = L.getD i p0 := getD_app hil
      have M1 := Lib.hid (fun W (b : Below W2.heap.size W2 W) => More_fit (moR_yes HOK.out hil) (PL.out.below b))
      have M2 := Lib.hid (fun W (b : Below W2.heap.size W2 W) => More_fit (moR_yes HOB.out hil2) (PB.out.below b))
      have O1 := Lib.hid (fun W (b : Below W2.heap.size W2 W) => Of_fit (deR_yes (T := T) HOK.out hil) (PL.out.below b))
      have O2 := Lib.hid (fun W (b : Below W2.heap.size W2 W) => Of_fit (deR_yes (T := T) HOB.out hil2) (PB.out.below b))
      have A1 := Lib.hid (fun W (b : Below W2.heap.size W2 W) k (hk : k < (L.getD i p0).n) => Wait_fit (waR_yes HOK.out hil hk) (PL.out.below b))
      have A2 := Lib.hid (fun W (b : Below W2.heap.size W2 W) k (hk : k < (L.getD i p0).n) => Wait_fit (waR_yes HOB.out hil2 (show k < ((L ++ [X]).getD i p0).n by rw [hgd]; exact hk)) (PB.out.below b))
      have HDM := Lib.hid (del_mono (l := L) HX.out hil (T : Int) (L.getD i p0).n)
      have HDS := Lib.hid (fun (hsh : shK (L.getD i p0).z X.z X.n (L.getD i p0).n = false) => del_same (x := X) hil (T : Int) (fun k hk hg => shK_no hsh k hk hg))
      have HMS := Lib.hid (fun (hsh : shK (L.getD i p0).z X.z X.n (L.getD i p0).n = false) => mors_same (x := X) hil (fun k hk hg => shK_no hsh k hk hg))
      have HMG := Lib.hid (fun k (hk : k < (L.getD i p0).n) => grow_more HOK.out HX.out hil hk)
      have HWM := Lib.hid (fun t => wait_mono (l := L) HX.out hil t)
      have HWB := Lib.hid (fun t => wait_bd HOK.out i t)
      obtain ⟨gl1, gl2⟩ := (grow_at (X := X) hil).len
      have HG1 := Lib.hid gl1; have HG2 := Lib.hid gl2
      rw [hgd] at O2 A2
      have hxp := HX.out.p1; have hxp2 := HX.out.p2
      obtain ⟨b1, off, ta, tcap, rfl, d0, d1, d2, hT, l1, l2, l3⟩ := PL.out.at hlt
      obtain ⟨b2, off2, tb, tcap2, rfl, f0, f1, f2, hS, k1, k2, k3⟩ := PX.out.at (i := 0) (by decide)
      change W2.cell? ⟨b2, off2, none⟩ = some (.int .i64 X.per) at f0
      change W2.cell? ⟨b2, off2 + 2, none⟩ = some (.slice tb X.n tcap2) at f2
      change TK W2 (.slice tb X.n tcap2) X.n X.z at hS
      change X.n ≤ 2199023255552 at k3
      obtain ⟨p, hp⟩ : ∃ p, p = L.getD i p0 := ⟨_, rfl⟩
      rw [← hp] at d0 d1 d2 hT l1 l3 O1 O2 A1 A2 HDM HDS HMS HMG HG1 HG2
      obtain ⟨m, hm⟩ : ∃ m, m = p.n := ⟨_, rfl⟩
      obtain ⟨z, hz⟩ : ∃ z, z = p.z := ⟨_, rfl⟩
      rw [← hm] at d2 hT l1 l3 O1 O2 A1 A2 HDM HDS HMS HMG HG1 HG2
      rw [← hz] at hT A1 A2 HDS HMS
      obtain ⟨xper, hxper⟩ : ∃ xper, xper = X.per := ⟨_, rfl⟩
      rw [← hxper] at f0 HWM hxp hxp2
      obtain ⟨mX, hmX⟩ : ∃ mX, mX = X.n := ⟨_, rfl⟩
      rw [← hmX] at f2 hS HDS HMS k3
      obtain ⟨zX, hzX⟩ : ∃ zX, zX = X.z := ⟨_, rfl⟩
      rw [← hzX] at hS HDS HMS
      generalize mors L i = ML at *
      generalize mors (L ++ [X]) i = MB at *
      generalize del L i T m = DL at *
      generalize del (L ++ [X]) i T m = DB at *
      have HC1 := Lib.hid (fun W (b : Below W2.heap.size W2 W) => (b.cell (World.block_lt_of_cell? _ _ d2)).trans d2)
      have HC2 := Lib.hid (fun W (b : Below W2.heap.size W2 W) => (b.cell (World.block_lt_of_cell? _ _ f2)).trans f2)
      have HC3 := Lib.hid (fun W (b : Below W2.heap.size W2 W) => (b.cell (World.block_lt_of_cell? _ _ f0)).trans f0)
      have HT := Lib.hid hT; have HS := Lib.hid hS
      have hmm : m ≤ 9223372036854775807 := by omega
      have hmmX : mX ≤ 9223372036854775807 := by omega
      clear hgd hil2 hp hm hz hxper hmX hzX d0 d1 d2 f0 f1 f2 hT hS l1 l2 l3 k1 k2 k3 gl1 gl2 hil PL PX PB
      go_wp2_with fail
      go_loopw [10, 11] (fun o k wr => ∃ (j : Nat) (b : Bool), j ≤ m ∧ k = .int .i64 j ∧ o = .bool b ∧ Hid (b = shK z zX mX j) ∧ Hid (Below W2.heap.size W2 wr)) (fun _ k _ => m - (intOf k).toNat)
      case atStart => exact ⟨0, false, by omega, rfl, rfl, rfl, HW.out⟩
      case round =>
        obtain ⟨k, b, hk, rfl, rfl, HSH, HB4⟩ := hrel
        have e2 := HC1.out _ HB4.out
        by_cases hkm : k < m
        · have hkI : (k : Int) < m := by omega
          have hk0 : (0 : Int) ≤ k := by omega
          go_wp2_with fail
          go_loopw [10, 12] (fun o k2 wr => ∃ (j : Nat) (b : Bool), j ≤ mX ∧ k2 = .int .i64 j ∧ o = .bool b ∧ Hid (b = (shK z zX mX k || shJ (z k 5) zX j)) ∧ Hid (Below W2.heap.size W2 wr)) (fun _ k2 _ => mX - (intOf k2).toNat)
          case atStart => exact ⟨0, b, by omega, rfl, rfl, by unfold Hid shJ; rw [Bool.or_false]; exact HSH.out, HB4.out⟩
          case round =>
            clear HSH HB4 e2
            obtain ⟨j, b, hj, rfl, rfl, HSJ, HB5⟩ := hrel
            have e3 := HC2.out _ HB5.out
            by_cases hjm : j < mX
            · have e2 := HC1.out _ HB5.out
              have hjI : (j : Int) < mX := by omega
              have hj0 : (0 : Int) ≤ j := by omega
              obtain ⟨tb1, to1, rfl, _, _, _, _, _, c5, _, _⟩ := (HT.out.below HB5.out).at hkm
              obtain ⟨tb2, to2, rfl, _, _, _, _, _, y5, _, _⟩ := (HS.out.below HB5.out).at hjm
              have HST : Hid (shJ (z k 5) zX (j + 1) = (shJ (z k 5) zX j || (decide (0 < z k 5) && (z k 5 == zX j 5)))) := rfl
              cases b with
              | true =>
                as_aux_lemma =>
                have HE : Hid (true = (shK z zX mX k || shJ (z k 5) zX (j + 1))) := by
                  unfold Hid; rw [HST.out, ← Bool.or_assoc, ← HSJ.out]; rfl
                clear HSJ HST
                go_wp2_with fail
                go_quiet (fail)
                go_wp2_with fail
                go_roundw
                case rel => exact ⟨j + 1, true, by omega, by go_num, rfl, HE.out, below_drewN HB5.out _⟩
                case measure => simp [intOf]; omega
              | false =>
                cases hg : decide (0 < z k 5) with
                | false =>
                  as_aux_lemma =>
                  have HE : Hid (false = (shK z zX mX k || shJ (z k 5) zX (j + 1))) := by
                    unfold Hid; rw [HST.out, ← Bool.or_assoc, ← HSJ.out, hg]; rfl
                  clear HSJ HST
                  go_wp2_with fail
                  go_quiet (fail)
                  go_wp2_with fail
                  go_roundw
                  case rel => exact ⟨j + 1, false, by omega, by go_num, rfl, HE.out, below_drewN HB5.out _⟩
                  case measure => simp [intOf]; omega
                | true =>
                  as_aux_lemma =>
                  obtain ⟨eb, heb⟩ : ∃ eb, (z k 5 == zX j 5) = eb := ⟨_, rfl⟩
                  have HE : Hid (eb = (shK z zX mX k || shJ (z k 5) zX (j + 1))) := by
                    unfold Hid; rw [HST.out, ← Bool.or_assoc, ← HSJ.out, hg, heb]; rfl
                  clear HSJ HST
                  go_wp2_with fail
                  go_quiet (fail)
                  go_wp2_with fail
                  go_roundw
                  case rel => exact ⟨j + 1, eb, by omega, by go_num, rfl, HE.out, below_drewN HB5.out _⟩
                  case measure => simp [intOf]; omega
            · obtain rfl : j = mX := by omega
              have HE : Hid (b = shK z zX j (k + 1)) := HSJ.out
              clear HSJ
              go_wp2_with fail
              go_roundw
              case rel => exact ⟨k + 1, b, by omega, by go_num, rfl, HE.out, HB5⟩
              case measure => simp [intOf]; omega
        · obtain rfl : m = k := by omega
          cases b with
          | false =>
            as_aux_lemma =>
              have CM := Lib.hid hmm
              have HSF : shK z zX mX m = false := HSH.out.symm
              have hDE := HDS.out HSF
              have hME := HMS.out HSF
              rw [hDE] at O2
              rw [hME] at M2 HG2 HMG
              clear hDE hME HSF
              have hdd : decide (DL < DL) = false := by have := HDM.out; first | (simp; omega) | simp
              clear HSH HDS HMS HDM HC2 HS
              go_wp2_with fail
              refine (M1.out _ HB4.out).mono ?_
              rintro e v3 ⟨s1, rfl, hs, hb⟩
              have C3 := Lib.hid (chn HB4.out hb)
              dsimp only at hs ⊢
              have I3 := Lib.hid hs
              obtain ⟨aa, ca, es, _, _⟩ := hs.slice
              rw [HG1.out] at es
              subst es
              clear hb M1 hs
              go_wp2_with fail
              refine (M2.out _ C3.out).mono ?_
              rintro e v4 ⟨s2, rfl, hs, hb⟩
              have C4 := Lib.hid (chn C3.out hb)
              have I34 := Lib.hid (I3.out.below hb)
              dsimp only at hs ⊢
              have I4 := Lib.hid hs
              obtain ⟨ab, cb, es, _, _⟩ := hs.slice
              rw [HG2.out] at es
              subst es
              clear hb M2 hs I3 C3
              go_wp2_with fail
              refine (O1.out _ C4.out).mono ?_
              rintro e v5 ⟨rfl, hb⟩
              have C5 := Lib.hid (chn C4.out hb); have I35 := Lib.hid (I34.out.below hb); have I45 := Lib.hid (I4.out.below hb)
              clear hb O1 I34 I4 C4
              go_wp2_with fail
              refine (O2.out _ C5.out).mono ?_
              rintro e v6 ⟨rfl, hb⟩
              have C6 := Lib.hid (chn C5.out hb); have I36 := Lib.hid (I35.out.below hb); have I46 := Lib.hid (I45.out.below hb)
              have e2 := HC1.out _ C6.out
              clear hb O2 I35 I45 C5
              have HE := Lib.hid (eq_is I36.out I46.out)
              go_wp2_with fail
              refine HE.out.mono ?_
              rintro e v7 ⟨rfl, hb⟩
              have C7 := Lib.hid (chn C6.out hb); have I37 := Lib.hid (I36.out.below hb); have I47 := Lib.hid (I46.out.below hb)
              clear hb HE e2 I36 I46 C6
              go_wp2_with fail
              go_loopw [21] (fun k wr => ∃ j : Nat, j ≤ m ∧ k = .int .i64 j ∧ Hid (Below v7.heap.size v7 wr)) (fun k _ => m - (intOf k).toNat)
              case atStart => exact ⟨0, by omega, rfl, Below.refl _ _⟩
              case round =>
                obtain ⟨k2, hk2, rfl, HB7⟩ := hrel
                by_cases hkm2 : k2 < m
                · as_aux_lemma =>
                  have hkI : (k2 : Int) < m := by omega
                  have hk0 : (0 : Int) ≤ k2 := by omega
                  have Q1 := Lib.hid (A1.out wr (chn C7.out HB7.out) k2 hkm2)
                  have Q2 := Lib.hid (fun W (b : Below W2.heap.size W2 W) => A2.out W b k2 hkm2)
                  have hwm := HWM.out (z k2)
                  have hwb := HWB.out (z k2)
                  have hmg := HMG.out k2 hkm2
                  generalize wait L i (z k2) = V at *
                  generalize wait (L ++ [X]) i (z k2) = Wn at *
                  have HMGk := Lib.hid hmg
                  have y1 : decide (Wn < V) = false := by simp; omega
                  have y3 : decide (0 < xper) = true := by simp; omega
                  have y4 : decide (V + 2 * xper < Wn) = false := by simp; omega
                  have p1 : IntKind.i64.wrap (2 * xper) = 2 * xper := IntWalk.i64_in _ (by omega)
                  have p2 : IntKind.i64.wrap (V + 2 * xper) = V + 2 * xper := IntWalk.i64_in _ (by omega)
                  have p3 : wrap64 (2 * xper) = 2 * xper := by unfold wrap64; omega
                  have p4 : wrap64 (V + 2 * xper) = V + 2 * xper := by unfold wrap64; omega
                  clear hwm hwb hmg
                  go_wp2_with fail
                  refine Q1.out.mono ?_
                  rintro e v8 ⟨rfl, hb⟩
                  have B8 := Lib.hid (chn HB7.out hb)
                  clear hb Q1
                  go_wp2_with fail
                  refine (Q2.out _ (chn C7.out B8.out)).mono ?_
                  rintro e v9 ⟨rfl, hb⟩
                  have B9 := Lib.hid (chn B8.out hb)
                  have C9 := Lib.hid (chn C7.out B9.out)
                  clear hb Q2 B8
                  have e2 := HC1.out _ C9.out
                  have e3 := HC3.out _ C9.out
                  obtain ⟨tb1, to1, rfl, _, _, _, _, _, c5, _, _⟩ := (HT.out.below C9.out).at hkm2
                  obtain ⟨ba, oa, rfl, ya⟩ := (I37.out.below B9.out).at (i := k2) hkm2
                  obtain ⟨bb, ob2, rfl, yb⟩ := (I47.out.below B9.out).at (i := k2) hkm2
                  obtain ⟨ak, hak⟩ : ∃ ak, ak = ML.getD k2 0 := ⟨_, rfl⟩
                  rw [← hak] at ya
                  rw [← hak] at yb
                  clear hak HMGk
                  cases hg : decide (0 < z k2 5) with
                  | false =>
                    as_aux_lemma =>
                    go_wp2_with fail
                    go_quiet (fail)
                    go_wp2_with fail
                    go_roundw
                    case rel => exact ⟨k2 + 1, by omega, by go_num, below_drewN B9.out _⟩
                    case measure => simp [intOf]; omega
                  | true =>
                    as_aux_lemma =>
                    go_wp2_with fail
                    go_quiet (fail)
                    go_wp2_with fail
                    go_roundw
                    case rel => exact ⟨k2 + 1, by omega, by go_num, below_drewN B9.out _⟩
                    case measure => simp [intOf]; omega
                · obtain rfl : m = k2 := by omega
                  have HBE := Lib.hid (chn C7.out HB7.out)
                  go_wp2_with fail
                  go_roundw
                  case rel => exact ⟨i + 1, by omega, by go_num, HBE⟩
                  case measure => simp [intOf]; omega
          | true =>
            as_aux_lemma =>
              have CM := Lib.hid hmm
              have hdd : decide (DB < DL) = false := by have := HDM.out; first | (simp; omega) | simp
              clear HSH HDS HMS HDM HC2 HS
              go_wp2_with fail
              refine (M1.out _ HB4.out).mono ?_
              rintro e v3 ⟨s1, rfl, hs, hb⟩
              have C3 := Lib.hid (chn HB4.out hb)
              dsimp only at hs ⊢
              have I3 := Lib.hid hs
              obtain ⟨aa, ca, es, _, _⟩ := hs.slice
              rw [HG1.out] at es
              subst es
              clear hb M1 hs
              go_wp2_with fail
              refine (M2.out _ C3.out).mono ?_
              rintro e v4 ⟨s2, rfl, hs, hb⟩
              have C4 := Lib.hid (chn C3.out hb)
              have I34 := Lib.hid (I3.out.below hb)
              dsimp only at hs ⊢
              have I4 := Lib.hid hs
              obtain ⟨ab, cb, es, _, _⟩ := hs.slice
              rw [HG2.out] at es
              subst es
              clear hb M2 hs I3 C3
              go_wp2_with fail
              refine (O1.out _ C4.out).mono ?_
              rintro e v5 ⟨rfl, hb⟩
              have C5 := Lib.hid (chn C4.out hb); have I35 := Lib.hid (I34.out.below hb); have I45 := Lib.hid (I4.out.below hb)
              clear hb O1 I34 I4 C4
              go_wp2_with fail
              refine (O2.out _ C5.out).mono ?_
              rintro e v6 ⟨rfl, hb⟩
              have C6 := Lib.hid (chn C5.out hb); have I36 := Lib.hid (I35.out.below hb); have I46 := Lib.hid (I45.out.below hb)
              have e2 := HC1.out _ C6.out
              clear hb O2 I35 I45 C5
              go_wp2_with fail
              clear e2
              go_loopw [21] (fun k wr => ∃ j : Nat, j ≤ m ∧ k = .int .i64 j ∧ Hid (Below v6.heap.size v6 wr)) (fun k _ => m - (intOf k).toNat)
              case atStart => exact ⟨0, by omega, rfl, Below.refl _ _⟩
              case round =>
                obtain ⟨k2, hk2, rfl, HB7⟩ := hrel
                by_cases hkm2 : k2 < m
                · as_aux_lemma =>
                  have hkI : (k2 : Int) < m := by omega
                  have hk0 : (0 : Int) ≤ k2 := by omega
                  have Q1 := Lib.hid (A1.out wr (chn C6.out HB7.out) k2 hkm2)
                  have Q2 := Lib.hid (fun W (b : Below W2.heap.size W2 W) => A2.out W b k2 hkm2)
                  have hwm := HWM.out (z k2)
                  have hwb := HWB.out (z k2)
                  have hmg := HMG.out k2 hkm2
                  generalize wait L i (z k2) = V at *
                  generalize wait (L ++ [X]) i (z k2) = Wn at *
                  have HMGk := Lib.hid hmg
                  have y1 : decide (Wn < V) = false := by simp; omega
                  have y3 : decide (0 < xper) = true := by simp; omega
                  have y4 : decide (V + 2 * xper < Wn) = false := by simp; omega
                  have p1 : IntKind.i64.wrap (2 * xper) = 2 * xper := IntWalk.i64_in _ (by omega)
                  have p2 : IntKind.i64.wrap (V + 2 * xper) = V + 2 * xper := IntWalk.i64_in _ (by omega)
                  have p3 : wrap64 (2 * xper) = 2 * xper := by unfold wrap64; omega
                  have p4 : wrap64 (V + 2 * xper) = V + 2 * xper := by unfold wrap64; omega
                  clear hwm hwb hmg
                  go_wp2_with fail
                  refine Q1.out.mono ?_
                  rintro e v8 ⟨rfl, hb⟩
                  have B8 := Lib.hid (chn HB7.out hb)
                  clear hb Q1
                  go_wp2_with fail
                  refine (Q2.out _ (chn C6.out B8.out)).mono ?_
                  rintro e v9 ⟨rfl, hb⟩
                  have B9 := Lib.hid (chn B8.out hb)
                  have C9 := Lib.hid (chn C6.out B9.out)
                  clear hb Q2 B8
                  have e2 := HC1.out _ C9.out
                  have e3 := HC3.out _ C9.out
                  obtain ⟨tb1, to1, rfl, _, _, _, _, _, c5, _, _⟩ := (HT.out.below C9.out).at hkm2
                  obtain ⟨ba, oa, rfl, ya⟩ := (I36.out.below B9.out).at (i := k2) hkm2
                  obtain ⟨bb, ob2, rfl, yb⟩ := (I46.out.below B9.out).at (i := k2) hkm2
                  obtain ⟨ak, hak⟩ : ∃ ak, ak = ML.getD k2 0 := ⟨_, rfl⟩
                  rw [← hak] at ya
                  obtain ⟨bk, hbk⟩ : ∃ bk, bk = MB.getD k2 0 := ⟨_, rfl⟩
                  rw [← hbk] at yb
                  have y2 : decide (bk < ak) = false := by have := HMGk.out; rw [← hak, ← hbk] at this; simp; omega
                  clear hbk
                  clear hak HMGk
                  cases hg : decide (0 < z k2 5) with
                  | false =>
                    as_aux_lemma =>
                    go_wp2_with fail
                    go_quiet (fail)
                    go_wp2_with fail
                    go_roundw
                    case rel => exact ⟨k2 + 1, by omega, by go_num, below_drewN B9.out _⟩
                    case measure => simp [intOf]; omega
                  | true =>
                    as_aux_lemma =>
                    go_wp2_with fail
                    go_quiet (fail)
                    go_wp2_with fail
                    go_roundw
                    case rel => exact ⟨k2 + 1, by omega, by go_num, below_drewN B9.out _⟩
                    case measure => simp [intOf]; omega
                · obtain rfl : m = k2 := by omega
                  have HBE := Lib.hid (chn C6.out HB7.out)
                  go_wp2_with fail
                  go_roundw
                  case rel => exact ⟨i + 1, by omega, by go_num, HBE⟩
                  case measure => simp [intOf]; omega
    · obtain rfl : i = n := by omega
      go_wp2_with fail
      go_ret
      exact ⟨rfl, chn BW.out HW.out⟩
end Go.Proofs.Ytldnlioafneejaa
