/- ActRest. -/
import Derived.Test.YtnnckmbhleoamaaActM
import Derived.Test.YtnnckmbhleoamaaActL
namespace Go.Proofs.Ytnnckmbhleoamaa
open Go.RowKit Ac
set_option linter.unusedVariables false

/-- two rows of the program's, apart -/
structure TY (B : Nat) (W w : World) (rb g sb sg : Nat) (c d : List Ak) : Prop where
  p : PO B W w rb g c
  q : PO B W w sb sg d
  n1 : rb ≠ sb
  n2 : rb ≠ sg
  n3 : g ≠ sb
  n4 : g ≠ sg
section
variable {B : Nat} {W w : World} {rb g sb sg : Nat} {c d : List Ak}
theorem TY.below {w' : World} (h : TY B W w rb g sb sg c d) (q : Below w.heap.size w w') : TY B W w' rb g sb sg c d := ⟨h.p.below q, h.q.below q, h.n1, h.n2, h.n3, h.n4⟩
theorem TY.sz (h : TY B W w rb g sb sg c d) : B ≤ w.heap.size := Nat.le_trans h.p.sz h.p.bel.size
def YP (v : Value) (B : Nat) (W : World) (rb g sb sg : Nat) (c d : List Ak) (e : Ending) (w' : World) : Prop := e = .returned v ∧ TY B W w' rb g sb sg c d
theorem ty_ran1 (h : TY B W w rb g sb sg c d) : Calls Try.prog 11 #[.pointer (some ⟨rb, 0, none⟩)] w (YP (.int .i64 (ranE c)) B W rb g sb sg (ranL c) d) :=
  (po_ran h.p rfl rfl).mono fun e w' ⟨e1, e2, e3⟩ => ⟨e1, e2, h.q.keepTwo e3 h.p.b1 h.p.b2 h.n1.symm h.n3.symm h.n2.symm h.n4.symm, h.n1, h.n2, h.n3, h.n4⟩
theorem ty_did1 (h : TY B W w rb g sb sg c d) : Calls Try.prog 13 #[.pointer (some ⟨rb, 0, none⟩)] w (YP (.int .i64 (didE c)) B W rb g sb sg (didL c) d) :=
  (po_did h.p rfl rfl).mono fun e w' ⟨e1, e2, e3⟩ => ⟨e1, e2, h.q.keepTwo e3 h.p.b1 h.p.b2 h.n1.symm h.n3.symm h.n2.symm h.n4.symm, h.n1, h.n2, h.n3, h.n4⟩
theorem ty_ran2 (h : TY B W w rb g sb sg c d) : Calls Try.prog 11 #[.pointer (some ⟨sb, 0, none⟩)] w (YP (.int .i64 (ranE d)) B W rb g sb sg c (ranL d)) :=
  (po_ran h.q rfl rfl).mono fun e w' ⟨e1, e2, e3⟩ => ⟨e1, h.p.keepTwo e3 h.q.b1 h.q.b2 h.n1 h.n2 h.n3 h.n4, e2, h.n1, h.n2, h.n3, h.n4⟩
theorem ty_did2 (h : TY B W w rb g sb sg c d) : Calls Try.prog 13 #[.pointer (some ⟨sb, 0, none⟩)] w (YP (.int .i64 (didE d)) B W rb g sb sg c (didL d)) :=
  (po_did h.q rfl rfl).mono fun e w' ⟨e1, e2, e3⟩ => ⟨e1, h.p.keepTwo e3 h.q.b1 h.q.b2 h.n1 h.n2 h.n3 h.n4, e2, h.n1, h.n2, h.n3, h.n4⟩
theorem ty_new {w2 w3 : World} (hp : PO B W w2 rb g c) (hq : PO B W w3 sb sg c) (h1 : w2.heap.size ≤ sb) (h2 : w2.heap.size ≤ sg) (hb : Below w2.heap.size w2 w3) : TY B W w3 rb g sb sg c c := by
  have l1 := hp.r.lt
  have l2 := hp.lt
  exact ⟨hp.below hb, hq, by omega, by omega, by omega, by omega⟩
end
theorem nv_ex2 (l : List Ak) : ∃ (k n : Int) (s : ByteArray) (b : Bool), nv l = .tuple #[.agg #[.int .i64 k, .int .i64 n, .string s], .bool b] := ⟨_, _, _, _, rfl⟩
theorem two_eq (b : Bool) : (b == b) = true := by cases b <;> rfl
theorem two_ne (b : Bool) : (b != b) = false := by cases b <;> rfl
theorem ranE_or (c : List Ak) : ranE c = 0 ∨ ranE c = 250 := by
  cases c with
  | nil => exact Or.inr rfl
  | cons x t =>
    by_cases h : x.k = 1
    · exact Or.inl (if_pos h)
    · exact Or.inr (if_neg h)
set_option maxRecDepth 100000 in
set_option maxHeartbeats 8000000 in
theorem rest_law {w : World} {u : Value} {l0 : List Ak} (hu : AS w u l0) (st : Int) : Calls Try.prog 6 #[u, .int .i64 st] w (TrueB w) := by
  obtain ⟨a, cap, rfl, h1, h2⟩ := hu.slice
  have HU := Lib.hid hu
  generalize l0.length = n0 at *
  clear hu h1 h2
  have s1 := Try.eqGuardType33
  have s2 := Try.stoodInHeld33
  obtain ⟨z, hz0, hz1, hz⟩ : ∃ z : Int, 0 ≤ z ∧ z < 200 ∧ bring st 200 = z := ⟨_, (bring_bd st 200 (by decide)).1, (bring_bd st 200 (by decide)).2, rfl⟩
  have HBR := Lib.hid (fun w => bring_any st 200 w (by decide) (by decide))
  rw [hz] at HBR
  clear hz
  go_enter Try.func6, Try.ntmps6
  go_wp2_with fail
  refine (made_any HU.out).mono ?_
  rintro e w2 ⟨la, lc, l, rfl, hna, hg, hb2⟩
  have HB2 := Lib.hid hb2
  have HG := Lib.hid hg
  have HA2 := Lib.hid hna.as
  clear hna hg hb2 HU
  go_wp2_with fail
  refine (po_new (B := w.heap.size) (W := w) HB2.out (Nat.le_refl _) HA2.out HG.out).mono ?_
  rintro e w3 ⟨rb, g, rfl, hp, _⟩
  have HP := Lib.hid hp
  clear hp HA2 HB2 HG
  generalize l.length = ln at *
  go_wp2_with fail
  go_loopw [7] (fun i wr => ∃ p : Nat, (p : Int) ≤ z ∧ i = .int .i64 p ∧ ∃ c : List Ak, Hid (PO w.heap.size w wr rb g c)) (fun i _ => z.toNat - (intOf i).toNat)
  case atStart => exact ⟨0, by omega, rfl, l, HP.out⟩
  case round =>
    clear HP
    obtain ⟨p, hp, rfl, c, HP⟩ := hrel
    by_cases hpz : (p : Int) < z
    · go_wp2_with fail
      refine (HBR.out _).mono ?_
      rintro e w4 ⟨rfl, rfl⟩
      go_wp2_with fail
      rcases ranE_or c with hr | hr
      · refine (po_ran HP.out hr rfl).mono ?_
        rintro e w4 ⟨rfl, ht, _⟩
        have HP2 := Lib.hid ht
        clear ht HP hr
        go_wp2_with fail
        go_roundw
        case rel => exact ⟨p + 1, by omega, by go_num, _, HP2.out⟩
        case measure => simp [intOf]; omega
      · refine (po_ran HP.out hr rfl).mono ?_
        rintro e w4 ⟨rfl, ht, _⟩
        have HP2 := Lib.hid ht
        clear ht HP hr
        go_wp2_with fail
        refine (po_did HP2.out rfl rfl).mono ?_
        rintro e w5 ⟨rfl, ht, _⟩
        have HP3 := Lib.hid ht
        clear ht HP2
        go_wp2_with fail
        go_roundw
        case rel => exact ⟨p + 1, by omega, by go_num, _, HP3.out⟩
        case measure => simp [intOf]; omega
    · obtain rfl : (p : Int) = z := by omega
      go_wp2_with fail
      refine (HBR.out _).mono ?_
      rintro e w4 ⟨rfl, rfl⟩
      go_wp2_with fail
      clear HBR
      refine (rest_any HP.out.r (Nat.le_trans HP.out.gd.len (by decide))).mono ?_
      rintro e w5 ⟨ra, rc, rfl, hna, hb5⟩
      have HA5 := Lib.hid hna.as
      have HP5 := Lib.hid (HP.out.below hb5)
      clear hna hb5 HP
      go_wp2_with fail
      refine (po_new (B := w.heap.size) (W := w) HP5.out.bel (Nat.le_refl _) HA5.out HP5.out.gd).mono ?_
      rintro e w6 ⟨sb, sg, rfl, hq, hs1, hs2, hb6⟩
      have HT := Lib.hid (ty_new HP5.out hq hs1 hs2 hb6)
      clear hq hs1 hs2 hb6 HP5 HA5
      generalize c.length = cn at *
      obtain ⟨lf, hlf⟩ : ∃ lf, left c = lf := ⟨_, rfl⟩
      have HLF := Lib.hid hlf
      clear hlf
      go_wp2_with fail
      refine (po_left HT.out.q HLF.out).mono ?_
      rintro e w7 ⟨rfl, hq, ho⟩
      have HT7 := Lib.hid (show TY w.heap.size w w7 rb g sb sg c c from ⟨HT.out.p.keepTwo ho HT.out.q.b1 HT.out.q.b2 HT.out.n1 HT.out.n2 HT.out.n3 HT.out.n4, hq, HT.out.n1, HT.out.n2, HT.out.n3, HT.out.n4⟩)
      clear hq ho HT
      go_wp2_with fail
      refine (po_left HT7.out.p HLF.out).mono ?_
      rintro e w8 ⟨rfl, hp8, ho⟩
      have HT8 := Lib.hid (show TY w.heap.size w w8 rb g sb sg c c from ⟨hp8, HT7.out.q.keepTwo ho HT7.out.p.b1 HT7.out.p.b2 HT7.out.n1.symm HT7.out.n3.symm HT7.out.n2.symm HT7.out.n4.symm, HT7.out.n1, HT7.out.n2, HT7.out.n3, HT7.out.n4⟩)
      clear hp8 ho HT7 HLF
      go_wp2_with fail
      refine (done_any HT8.out.q.r).mono ?_
      rintro e w9 ⟨rfl, rfl⟩
      go_wp2_with fail
      refine (done_any HT8.out.p.r).mono ?_
      rintro e w9 ⟨rfl, rfl⟩
      have hdn := two_ne c.isEmpty
      generalize c.isEmpty = dn at *
      go_wp2_with fail
      clear hdn
      go_loopw [10] (fun i wr => ∃ j : Nat, j ≤ 300 ∧ i = .int .i64 j ∧ ∃ c : List Ak, Hid (TY w.heap.size w wr rb g sb sg c c)) (fun i _ => 300 - (intOf i).toNat)
      case atStart => exact ⟨0, by omega, rfl, c, HT8.out⟩
      case round =>
        clear HT8
        obtain ⟨j, hj, rfl, c2, HT⟩ := hrel
        have HEND : Hid (∀ K : Prop, K → K) := fun _ h => h
        by_cases hj3 : j < 300
        · have hjd : decide ((j : Int) < 300) = true := by simp; omega
          have HDP := Lib.hid (done_any HT.out.p.r)
          have HDQ := Lib.hid (done_any HT.out.q.r)
          cases hdc : c2.isEmpty with
          | true =>
            rw [hdc] at HDP HDQ
            go_wp2_with fail
            refine HDP.out.mono ?_
            rintro e x1 ⟨rfl, rfl⟩
            go_wp2_with fail
            refine HDQ.out.mono ?_
            rintro e x1 ⟨rfl, rfl⟩
            go_wp2_with fail
            refine HDP.out.mono ?_
            rintro e x1 ⟨rfl, rfl⟩
            go_wp2_with fail
            refine (works_any _).mono ?_
            rintro e x1 ⟨rfl, hb⟩
            have HBX := Lib.hid (HT.out.p.bel.trans (hb.mono HT.out.sz))
            clear hb
            go_wp2_with fail
            go_ret
            exact ⟨rfl, HBX.out⟩
          | false =>
            rw [hdc] at HDP
            obtain ⟨k1, n1, t1, b1, hx⟩ := nv_ex2 c2
            have HX := Lib.hid hx
            clear hx HDQ hdc
            go_wp2_with fail
            refine HDP.out.mono ?_
            rintro e x1 ⟨rfl, rfl⟩
            clear HDP
            go_wp2_with fail
            refine (next_any HT.out.p.r).mono ?_
            rintro e x3 ⟨he, hb3⟩
            rw [HX.out] at he
            subst he
            have HT3 := Lib.hid ((HT.out.below hb3).below (below_al x3 (.cells #[.int .i64 k1, .int .i64 n1, .string t1] 33)))
            have HV3 := Lib.hid (AB.new x3 k1 n1 t1)
            clear hb3 HT
            go_wp2_with fail
            refine (next_any HT3.out.q.r).mono ?_
            rintro e x4 ⟨he, hb4⟩
            rw [HX.out] at he
            subst he
            have HT4 := Lib.hid ((HT3.out.below hb4).below (below_al x4 (.cells #[.int .i64 k1, .int .i64 n1, .string t1] 33)))
            obtain ⟨v0, v1, v2⟩ := ((HV3.out.below hb4).below (below_al x4 (.cells #[.int .i64 k1, .int .i64 n1, .string t1] 33))).cells
            obtain ⟨z0, z1, z2⟩ := (AB.new x4 k1 n1 t1).cells
            clear hb4 HT3 HV3 HX
            go_wp2_with fail
            clear v0 v1 v2 z0 z1 z2
            refine (ty_ran1 HT4.out).mono ?_
            rintro e x5 ⟨rfl, ht⟩
            have HT5 := Lib.hid ht
            clear ht HT4
            go_wp2_with fail
            refine (ty_ran2 HT5.out).mono ?_
            rintro e x6 ⟨rfl, ht⟩
            have HT6 := Lib.hid ht
            clear ht HT5
            generalize ranL c2 = c3 at *
            generalize ranE c2 = er at *
            go_wp2_with fail
            refine (ty_did1 HT6.out).mono ?_
            rintro e x7 ⟨rfl, ht⟩
            have HT7 := Lib.hid ht
            clear ht HT6
            go_wp2_with fail
            refine (ty_did2 HT7.out).mono ?_
            rintro e x8 ⟨rfl, ht⟩
            have HT8 := Lib.hid ht
            clear ht HT7
            generalize didL c3 = c4 at *
            generalize didE c3 = ed at *
            go_wp2_with fail
            go_roundw
            case rel => exact ⟨j + 1, by omega, by go_num, c4, HT8.out⟩
            case measure => simp [intOf]; omega
        · have hjd : decide ((j : Int) < 300) = false := by simp; omega
          have hde := two_eq c2.isEmpty
          have HDP := Lib.hid (done_any HT.out.p.r)
          have HDQ := Lib.hid (done_any HT.out.q.r)
          generalize c2.isEmpty = dn2 at *
          go_wp2_with fail
          refine HDQ.out.mono ?_
          rintro e x1 ⟨rfl, rfl⟩
          go_wp2_with fail
          refine HDP.out.mono ?_
          rintro e x1 ⟨rfl, rfl⟩
          go_wp2_with fail
          refine (works_any _).mono ?_
          rintro e x1 ⟨rfl, hb⟩
          have HBX := Lib.hid (HT.out.p.bel.trans (hb.mono HT.out.sz))
          clear hb
          go_wp2_with fail
          go_ret
          exact ⟨rfl, HBX.out⟩
end Go.Proofs.Ytnnckmbhleoamaa
