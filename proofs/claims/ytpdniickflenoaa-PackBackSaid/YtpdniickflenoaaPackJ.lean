/- What was put is read as it was. -/
import Derived.Test.YtpdniickflenoaaPackI
import Derived.Deep.RegionHeld3
namespace Go.Proofs.Ytpdniickflenoaa
open Go.RowKit Pk
set_option linter.unusedVariables false

/-- an append whose run is known, in a walk -/
theorem wpList_append_eq {P : Program} {w : World} {ops : Array Oper} {rest : List Oper} {o : Oper} {a : Act} {Q : Exit → Act → World → Prop} (hgd : o.guard = none) (s x : Operand) (t u : TypeId)
    (ho : o.op = .call { callee := .builtin .append, args := #[s, x], argTypes := #[t, u] })
    (sv xv v' : Value) (w' : World) (hs : a.eval s = sv) (hx : a.eval x = xv) (hrun : (Builtin.append_ #[t, u] o.type #[sv, xv]).run P w = .ok v' w')
    (h : wpList P ops Q rest (a.put o.dst v') w') : wpList P ops Q (o :: rest) a w := by
  refine wpList_plain hgd fun K hK => ?_
  unfold Oper.wp
  simp [execOp, ho, resolve, invoke, builtin, hs, hx, hrun, Result.andThen]
  exact hK _ _ h
theorem app_bytes {w : World} {B : Nat} {v x : Value} {xs ys : List Int} (ho : Ow w B v xs) (hx : BS w x ys) (hB : B ≤ w.heap.size) (hl : xs.length + ys.length ≤ 140737488355328) (ty : TypeId) :
    ∃ v' w', (Builtin.append_ #[22, 22] ty #[v, x]).run Try.prog w = .ok v' w' ∧ Ow w' B v' (xs ++ ys) ∧ Below B w w' := by
  obtain ⟨i0, hi, hz0, hz1, hz2⟩ := info_parts info5
  obtain ⟨a, cap, rfl, h1, h2, h3, h4⟩ := hx
  rcases a with _ | ad
  · obtain rfl := h3 rfl
    obtain rfl : ys = [] := List.eq_nil_of_length_eq_zero (by omega)
    exact ⟨v, w, run_append_owned_none w B 22 ty 5 i0 1 Try.underlying22 hi v _ _ ho, by rw [List.append_nil]; exact ho, Below.refl _ _⟩
  · obtain ⟨v', w', hrun, hown, hgr, _⟩ := run_append_own (P := Try.prog) w B 22 ty 5 i0 _ 1 1 Try.underlying22 hi hz0 hz1 hz2 rfl (by decide) v xs.length _ ho ad ys.length cap (ys.map (Value.int .u8)) (by simp) (src_u8 h4) (one_u8 ys) (by unfold maxLen; omega) (by omega) hB
    refine ⟨v', w', hrun, ow_of (m := xs.length + ys.length) (by simpa using hown) (by simp), (Below.refl B w).grown hgr hB (fun k hk => (ho.lt k hk).1)⟩

theorem oi_of {w : World} {B m : Nat} {v : Value} {xs : List Int} (h : w.ownsRow B 3 1 v m (xs.map (Value.int .i64))) (hm : m = xs.length) : Oi w B v xs := by subst hm; exact h
theorem oi_to {w : World} {B m : Nat} {v : Value} {xs : List Int} (h : Oi w B v xs) (hm : m = xs.length) : w.ownsRow B 3 1 v m (xs.map (Value.int .i64)) := by subst hm; exact h
theorem Oi.slice {w : World} {B : Nat} {v : Value} {xs : List Int} (h : Oi w B v xs) : ∃ a cap, v = .slice a xs.length cap := by
  obtain ⟨a, cap, h1, _⟩ := h.is; exact ⟨a, cap, h1⟩
theorem grown_oi {w0 w w' : World} {B m : Nat} {v : Value} {xs : List Value} (b : Below B w0 w) (hB : B ≤ w.heap.size) (ho : w.ownsRow B 3 1 v m xs) (o : Obj) (hg : (w.alloc o).grownBy w' v.ownBlock) : Below B w0 w' :=
  (b.alloc hB o).grown hg (by simp; omega) (fun k hk => (ho.lt k hk).1)

/-- the numbers that are put -/
def ks (l : List Int) : List Int := (l.take 30).map number
theorem ks_isN (l : List Int) : (ks l).all isN = true := by
  rw [List.all_eq_true]
  intro x hx
  obtain ⟨y, _, rfl⟩ := List.mem_map.1 hx
  exact number_is y
theorem nums_bys {L : List Int} (h : L.all isN = true) : Bys (nums L) := by
  induction L with
  | nil => exact Bys.nil
  | cons x L ih =>
    simp only [List.all_cons, Bool.and_eq_true] at h
    exact (num_bys (isN_yes h.1).1).append (ih h.2)
theorem ks_length (l : List Int) : (ks l).length = min 30 l.length := by simp [ks]
theorem nums_drop {K : List Int} {j : Nat} (hj : j < K.length) : nums (K.drop j) = num (K.getD j 0) ++ nums (K.drop (j + 1)) := by
  rw [List.drop_eq_getElem_cons hj]
  have e : K.getD j 0 = K[j] := by simp [List.getElem?_eq_getElem hj, List.getD]
  rw [e, nums]

set_option maxRecDepth 100000 in
set_option maxHeartbeats 4000000 in
theorem back_law {w : World} {u x : Value} {l bh : List Int} (s : ByteArray) (hu : IS w u l) (hrg : ∀ i, -9223372036854775808 ≤ l.getD i 0 ∧ l.getD i 0 ≤ 9223372036854775807) (hv : BS w x bh) (hb : Bys bh)
    (hl : l.length ≤ 140737488351232) (hs : s.size ≤ 140737488351232) (hbl : bh.length ≤ 140737488351232) : Calls Try.prog 4 #[u, .string s, x] w (TrueB w) := by
  obtain ⟨i0, hi, hz0, hz1, hz2⟩ := info_parts info3
  have HU := Lib.hid hu; have HV := Lib.hid hv; have HRG := Lib.hid hrg; have HBB := Lib.hid hb; have HBL := Lib.hid hbl
  obtain ⟨au, cu, rfl, q1, q2, q3, q4⟩ := hu
  obtain ⟨av, cv, rfl, p1, p2, _⟩ := hv
  obtain ⟨n, hn⟩ : ∃ n, n = l.length := ⟨_, rfl⟩
  obtain ⟨bl, hbh⟩ : ∃ bl, bl = bh.length := ⟨_, rfl⟩
  rw [← hn] at q1 q4 hl HU ⊢
  rw [← hbh] at p1 hbl HV HBL ⊢
  have HQ := Lib.hid q4; have HN := Lib.hid hn; have HBH := Lib.hid hbh
  have HW := Lib.hid (works_any w)
  obtain ⟨m3, hm⟩ : ∃ m : Nat, m = min s.size 3000 := ⟨_, rfl⟩
  have hmin : (if (3000 : Int) < (s.size : Int) then 3000 else (s.size : Int)) = (m3 : Int) := by split <;> omega
  have hm0 : (m3 : Int) ≤ s.size := by omega
  have hm1 : m3 ≤ s.size := by omega
  obtain ⟨s2, hs2⟩ : ∃ s2, s2 = s.extract 0 m3 := ⟨_, rfl⟩
  have hex : s.extract 0 m3 = s2 := hs2.symm
  have hsz : s2.size = m3 := by rw [hs2, ByteArray.size_extract]; omega
  have HSZ := Lib.hid hsz; have HM3 : Hid (m3 ≤ 3000) := by unfold Hid; omega
  clear q4 hn hbh hm hs2 hsz hrg hb
  go_enter Try.func4, Try.ntmps4
  go_wp2_with fail
  refine HW.out.mono ?_
  rintro e w1 ⟨rfl, hb1⟩
  have HB1 := Lib.hid hb1
  clear hb1 HW
  go_wp2_with fail
  go_loopw [7, 8] (fun sv i wr => ∃ k : Nat, k ≤ n ∧ k ≤ 30 ∧ i = .int .i64 k ∧ Hid (Oi wr w.heap.size sv ((l.take k).map number)) ∧ Hid (Below w.heap.size w wr)) (fun _ i _ => n - (intOf i).toNat)
  case atStart => exact ⟨0, by omega, by omega, rfl, Oi.nil _ _, HB1⟩
  case round =>
    obtain ⟨k, hk, hk30, rfl, HO, HB⟩ := hrel
    by_cases hkn : k < n ∧ k < 30
    · obtain ⟨hkn, hk3⟩ := hkn
      obtain ⟨b, off, rfl, hcell⟩ := HQ.out (by omega)
      have hc := hcell k hkn
      have hrk := HRG.out k
      obtain ⟨y, hy⟩ : ∃ y, y = l.getD k 0 := ⟨_, rfl⟩
      rw [← hy] at hc hrk
      have hc' := (HB.out.cell (lt_of_cell hc)).trans hc
      have HY := Lib.hid hy
      obtain ⟨N, hN⟩ : ∃ N, N = number y := ⟨_, rfl⟩
      have HNU := number_any y wr hrk.1 hrk.2
      rw [← hN] at HNU
      have HNN := Lib.hid hN; have HNU2 := Lib.hid HNU
      obtain ⟨a7, cap7, rfl⟩ := HO.out.slice
      obtain ⟨p, hp⟩ : ∃ p, p = ((l.take k).map number).length := ⟨_, rfl⟩
      have HPP : Hid (p ≤ 30) := by rw [hp]; simp [Hid]; omega
      rw [← hp] at HO ⊢
      have HO2 := Lib.hid (oi_to HO.out hp); have HP := Lib.hid hp
      have hsr := HB.out.size
      clear hcell hc hy hN HNU hp HO hrk
      go_wp2_with fail
      refine HNU2.out.mono ?_
      rintro e w2 ⟨rfl, rfl⟩
      go_wp2_with (at_builtin; refine wpList_append_own _ rfl (.tmp 27) (.tmp 33) 23 rfl w.heap.size 3 i0 (.int .i64 0) 1 8 Try.underlying23 hi hz0 hz1 hz2 rfl (by decide) _ _ _ rfl (HO2.out.alloc _) ⟨wr.heap.size, 0, none⟩ 1 1 [.int .i64 N] rfl rfl (cell_one _ _ _) (one_i64 [N]) ?c3 ?c4 ?c5 ?c6)
      case c3 => have := HPP.out; unfold maxLen; omega
      case c4 => have := HPP.out; omega
      case c5 => simp; omega
      case c6 =>
        intro v2 w2 hown hgrow _
        have hown' : Oi w2 w.heap.size v2 ((l.take (k + 1)).map number) := by
          have e : (l.take (k + 1)).map number = (l.take k).map number ++ [N] := by
            have hkl : k < l.length := by have := HN.out; omega
            rw [List.take_add_one, List.map_append, HNN.out, HY.out]
            simp [List.getElem?_eq_getElem hkl, List.getD]
          rw [e]
          exact oi_of (m := p + 1) (by simpa using hown) (by have := HP.out; rw [List.length_append, ← this]; rfl)
        have hb2 := grown_oi HB.out hsr HO2.out _ hgrow
        have H1 := Lib.hid hown'; have H2 := Lib.hid hb2
        clear hown hgrow hown' hb2 HO2
        go_wp2_with fail
        go_roundw
        case rel => exact ⟨k + 1, by omega, by omega, by go_num, H1, H2⟩
        case measure => simp [intOf]; omega
    · have hK : (l.take k).map number = ks l := by
        unfold ks
        have hn' := HN.out
        by_cases h30 : k = 30
        · rw [h30]
        · rw [List.take_of_length_le (by omega), List.take_of_length_le (by omega)]
      have HO' : Hid (Oi wr w.heap.size u7 (ks l)) := by rw [← hK]; exact HO.out
      obtain ⟨a7, cap7, hu7⟩ := HO'.out.slice
      obtain ⟨M, hM⟩ : ∃ M, M = (ks l).length := ⟨_, rfl⟩
      have hMb : M ≤ 30 := by rw [hM, ks_length]; omega
      rw [← hM] at hu7
      subst hu7
      have HMM := Lib.hid hM
      have hex2 : decide (k < n) = false ∨ (decide (k < n) = true ∧ decide ((k : Int) < 30) = false) := by
        by_cases h : k < n
        · exact Or.inr ⟨decide_eq_true h, decide_eq_false (by omega)⟩
        · exact Or.inl (decide_eq_false h)
      have HP := Lib.hid (put_any (BS.nil wr) HO'.out.is (by rw [← HMM.out]; simp; omega))
      clear HO hK hkn hM
      rcases hex2 with hd | ⟨hd, hd2⟩
      all_goals
        go_wp2_with fail
        refine HP.out.mono ?_
        intro e w2 hp
        obtain ⟨v1, rfl, ho1, hb1⟩ := hp.yes (ks_isN l)
        rw [List.nil_append] at ho1
        have HB2 := Lib.hid (HB.out.trans (hb1.mono HB.out.size))
        have HK2 := Lib.hid (HO'.out.below hb1)
        have hn1 : (nums (ks l)).length ≤ 270 := by have := nums_length (ks l); have := HMM.out; omega
        have HT := Lib.hid (putText_any s2 ho1.bs (by omega))
        clear hp ho1 hb1
        go_wp2_with fail
        refine HT.out.mono ?_
        intro e w3 hp
        obtain ⟨v2, rfl, ho2, hb2⟩ := hp.yes (by have := HSZ.out; have := HM3.out; omega)
        have HB3 := Lib.hid (HB2.out.trans (hb2.mono HB2.out.size))
        have HK3 := Lib.hid (HK2.out.below hb2)
        have hnm := num_bounds (s2.size : Int)
        obtain ⟨v3, w4, hrun, ho3, hb3⟩ := app_bytes ho2 (HV.out.below HB3.out) hb2.size (by
          simp only [List.length_append, txt_length]
          have := HSZ.out; have := HM3.out; have := HBL.out; have := HBH.out; omega) 22
        have hb3' : Below w2.heap.size w2 w4 := hb2.trans hb3
        have HB4 := Lib.hid (HB2.out.trans (hb3'.mono HB2.out.size))
        have HK4 := Lib.hid (HK2.out.below hb3')
        have HBY : Hid (Bys (nums (ks l) ++ (num (s2.size : Int) ++ txt s2) ++ bh)) := (((nums_bys (ks_isN l)).append ((num_bys (by omega)).append (txt_bys s2)))).append HBB.out
        have HRD := Lib.hid (read_any ho3.bs HBY.out (by
          simp only [List.length_append, txt_length]
          have := HSZ.out; have := HM3.out; have := HBL.out; have := HBH.out; omega))
        have HRUN := Lib.hid hrun
        clear hp ho2 hb2 HT hrun hb3 hb3' HB3 HK3 hnm HB2 HK2 HP
        go_wp2_with (at_builtin; refine wpList_append_eq rfl (.tmp 51) (.tmp 52) 22 22 rfl _ _ _ _ rfl rfl HRUN.out ?_)
        go_wp2_with fail
        refine HRD.out.mono ?_
        rintro e w5 ⟨rb, rfl, hrb, hrd, hb5⟩
        have HR5 : Hid (RD w5 rb (nums (ks l) ++ (num (s2.size : Int) ++ (txt s2 ++ bh))) 0) := by simpa [Hid] using hrd
        have HB5 := Lib.hid hb5; have HRB := Lib.hid hrb
        have HC4 : Hid (∀ j, j < M → ∃ g off, a7 = some ⟨g, off, none⟩ ∧ w4.cell? ⟨g, off + j, none⟩ = some (.int .i64 ((ks l).getD j 0))) := fun j hj => by
          obtain ⟨a', cap', e', _, _, _, hcc⟩ := HK4.out.is
          obtain ⟨rfl, _, _⟩ : a7 = a' ∧ M = (ks l).length ∧ cap7 = cap' := by simpa using e'
          obtain ⟨g, off, rfl, hg⟩ := hcc (by rw [← HMM.out]; omega)
          exact ⟨g, off, rfl, hg j (by rw [← HMM.out]; exact hj)⟩
        clear hrd hb5 hrb HRD HRUN ho3 HBY HK4
        go_wp2_with fail
        go_loopw [14] (fun i wq => ∃ j : Nat, j ≤ M ∧ i = .int .i64 j ∧ Hid (RD wq rb (nums ((ks l).drop j) ++ (num (s2.size : Int) ++ (txt s2 ++ bh))) 0) ∧ Hid (Below w4.heap.size w4 wq)) (fun i _ => M - (intOf i).toNat)
        case atStart => exact ⟨0, by omega, rfl, HR5, HB5⟩
        case round =>
          obtain ⟨j, hj, rfl, HRj, HBj⟩ := hrel
          by_cases hjM : j < M
          · obtain ⟨g, off, rfl, hc4⟩ := HC4.out j hjM
            have hcj := (HBj.out.cell (lt_of_cell hc4)).trans hc4
            have hg4 : g < w4.heap.size := lt_of_cell hc4
            have hND : Hid (nums ((ks l).drop j) = num ((ks l).getD j 0) ++ nums ((ks l).drop (j + 1))) := nums_drop (by rw [← HMM.out]; exact hjM)
            have hNN : isN ((ks l).getD j 0) = true := all_isN (by rw [← HMM.out]; exact hjM) (ks_isN l)
            obtain ⟨N, hN⟩ : ∃ N, N = (ks l).getD j 0 := ⟨_, rfl⟩
            rw [← hN] at hcj hND hNN
            have HNUM : Hid (Calls Try.prog 16 #[.pointer (some ⟨rb, 0, none⟩), .int .i64 9007199254740991] wr.drew (fun e w' => e = .returned (.int .i64 N) ∧ w'.cell? ⟨g, off + j, none⟩ = some (.int .i64 N) ∧ Hid (RD w' rb (nums ((ks l).drop (j + 1)) ++ (num (s2.size : Int) ++ (txt s2 ++ bh))) 0) ∧ Hid (Below w4.heap.size w4 w'))) := by
              have h1 := num_any (HRj.out.below (Below.refl _ _).drew) 9007199254740991
              have h2 : rdN (nums ((ks l).drop j) ++ (num (s2.size : Int) ++ (txt s2 ++ bh))) 0 9007199254740991 = (N, nums ((ks l).drop (j + 1)) ++ (num (s2.size : Int) ++ (txt s2 ++ bh)), 0) := by
                rw [hND.out, List.append_assoc]
                unfold rdN
                rw [if_neg (by decide), cutN_num hNN _ (isN_yes hNN).2]
              rw [h2] at h1
              refine h1.mono fun e w' ⟨he, hr, ho⟩ => ⟨he, ?_, hr, ?_⟩
              · exact (ho.cell (p := ⟨g, off + j, none⟩) (Nat.lt_of_lt_of_le hg4 HBj.out.size) (fun e => by have := HRB.out; simp only at e; omega)).trans hcj
              · exact HBj.out.trans ((Below.refl _ wr).drew.trans (ho.rd HRB.out HBj.out.size))
            have hj0 : (0 : Int) ≤ (j : Int) := by omega
            have hj1 : (j : Int) < (M : Int) := by omega
            clear hc4 hN hNN hND HRj
            go_wp2_with fail
            go_region_held3 (fun w' => w'.cell? ⟨g, off + j, none⟩ = some (.int .i64 N)) (first | assumption | go_keep)
              (first | (go_at_call 16; refine HNUM.out.mono ?_; rintro e w6 ⟨rfl, hq6, H6, H7⟩))
            all_goals
              go_wp2_with fail
              go_roundw
              case rel => exact ⟨j + 1, by omega, by go_num, H6, H7⟩
              case measure => simp [intOf]; omega
          · have e : j = M := by omega
            subst e
            have HRz : Hid (RD wr rb (num (s2.size : Int) ++ (txt s2 ++ bh)) 0) := by
              have := HRj.out
              rw [HMM.out, List.drop_length] at this
              exact this
            have HB6 : Hid (Below w.heap.size w wr) := HB4.out.trans (HBj.out.mono HB4.out.size)
            have HTX := text_any HRz.out s2.size
            have h2 : rdT (num (s2.size : Int) ++ (txt s2 ++ bh)) 0 s2.size = (txt s2, bh, 0) := by
              unfold rdT
              rw [if_neg (by decide), cutT_text (by rw [txt_length]) (isN_size (by have := HSZ.out; have := HM3.out; omega)) _ (Int.le_refl _)]
            rw [h2, txt_str] at HTX
            have HTX2 := Lib.hid HTX
            clear HTX h2 HRj HRz
            go_wp2_with fail
            refine HTX2.out.mono ?_
            rintro e w6 ⟨rfl, hr6, ho6⟩
            have HB7 := Lib.hid (HB6.out.trans (ho6.rd (Nat.le_trans HB4.out.size HRB.out) HB6.out.size))
            have HLF := Lib.hid (left_any hr6); have HER := Lib.hid (err_any hr6); have HEN := Lib.hid (end_any hr6)
            rw [← HBH.out] at HLF
            unfold endOf at HEN
            rw [← HBH.out] at HEN
            clear hr6 ho6 HTX2 HB6
            have hbm : bl ≤ maxLen := Nat.le_trans p1 p2
            cases hz : decide (bl = 0) with
            | true =>
              have hz' := of_decide_eq_true hz
              subst hz'
              rw [if_neg (by decide)] at HEN
              go_wp2_with fail
              refine HLF.out.mono ?_
              rintro e w7 ⟨rfl, rfl⟩
              go_wp2_with fail
              refine HER.out.mono ?_
              rintro e w7 ⟨rfl, rfl⟩
              go_wp2_with fail
              refine HEN.out.mono ?_
              rintro e w7 ⟨rfl, rfl⟩
              go_wp2_with fail
              go_ret
              exact ⟨rfl, HB7.out⟩
            | false =>
              have hz' := of_decide_eq_false hz
              rw [if_pos (by omega)] at HEN
              have hz2 : ((bl : Int) == 0) = false := by simp; omega
              go_wp2_with fail
              refine HLF.out.mono ?_
              rintro e w7 ⟨rfl, rfl⟩
              go_wp2_with fail
              refine HER.out.mono ?_
              rintro e w7 ⟨rfl, rfl⟩
              go_wp2_with fail
              refine HEN.out.mono ?_
              rintro e w7 ⟨rfl, rfl⟩
              go_wp2_with fail
              go_ret
              exact ⟨rfl, HB7.out⟩
end Go.Proofs.Ytpdniickflenoaa
