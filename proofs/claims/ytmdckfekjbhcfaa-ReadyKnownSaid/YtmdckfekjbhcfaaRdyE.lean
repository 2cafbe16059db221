/- The program's queue: Jobs, Late. -/
import Derived.Test.YtmdckfekjbhcfaaWalksG
import Derived.Test.YtmdckfekjbhcfaaRdyD
namespace Go.Proofs.Ytmdckfekjbhcfaa
open Go.RowKit Rk Rd Go.Sort
set_option linter.unusedVariables false

/-- a new row of all jobs' tasks -/
def JobsP (L : List Int) (w : World) (e : Ending) (w' : World) : Prop := ∃ g, e = .returned (.slice (some ⟨g, 0, none⟩) (srt L).length (srt L).length) ∧ NR w' w.heap.size (.slice (some ⟨g, 0, none⟩) (srt L).length (srt L).length) (ids (srt L)) ∧ Below w.heap.size w w'
theorem qjobs_any {w : World} {qb rb hb g : Nat} {L : List Int} (h : QS w qb rb hb g L) : Calls Try.prog 20 #[.pointer (some ⟨qb, 0, none⟩)] w (JobsP L w) := by
  have HK := Lib.hid (kept_cell h.c0)
  have HI := Lib.hid (ids_any w rb hb g _ _ h.k h.sz)
  have HO := Lib.hid (srt_ord L)
  clear h
  go_enter Try.func20, Try.ntmps20
  go_wp2_with fail
  refine HK.out.mono ?_
  rintro e w' ⟨rfl, rfl⟩
  go_wp2_with fail
  refine HI.out.mono ?_
  rintro e w1 ⟨gi, P, rfl, hP, hl, hown, hb1⟩
  obtain rfl : P = srt L := hP.unique HO.out
  have HR : Hid (NR w1 w.heap.size (.slice (some ⟨gi, 0, none⟩) (srt L).length (srt L).length) (ids (srt L))) := by
    unfold Hid NR
    rw [ids_len]
    have e1 : nums (ids (srt L)) = idv (srt L) := by unfold nums ids idv; rw [List.map_map]; rfl
    rw [e1]
    exact hown
  have HB := Lib.hid hb1
  clear hP hl hown hb1
  go_wp2_with fail
  go_ret
  exact ⟨_, rfl, HR.out, HB.out⟩
/-- the tasks whose jobs are late: a beginning of a new row -/
def LateP (xs : List Int) (w : World) (e : Ending) (w' : World) : Prop := ∃ g cap, e = .returned (.slice (some ⟨g, 0, none⟩) xs.length cap) ∧ IS w' (.slice (some ⟨g, 0, none⟩) xs.length cap) xs ∧ Below w.heap.size w w'
set_option maxRecDepth 100000 in
set_option maxHeartbeats 4000000 in
theorem qlate_any {w : World} {qb rb hb g : Nat} {L : List Int} (h : QS w qb rb hb g L) (now : Int) : Calls Try.prog 15 #[.pointer (some ⟨qb, 0, none⟩), .int .i64 now] w (LateP (ids (lateL L now)) w) := by
  have H := Lib.hid h
  have HJ := Lib.hid (qjobs_any h)
  have hlen := h.ok.len
  obtain ⟨N, hN⟩ : ∃ N, N = (srt L).length := ⟨_, rfl⟩
  have hN4 : N ≤ 4 := by have := srt_len L; omega
  have HN := Lib.hid hN
  unfold JobsP at HJ
  rw [← hN] at HJ
  clear h hN
  go_enter Try.func15, Try.ntmps15
  go_wp2_with fail
  refine HJ.out.mono ?_
  rintro e w1 ⟨b, rfl, hnr, hb1⟩
  have HNR := Lib.hid hnr
  have HB1 := Lib.hid hb1
  have HQ := Lib.hid (H.out.below hb1)
  have HEN : Hid ((ids (srt L)).length = N) := by unfold Hid; rw [ids_len, HN.out]
  clear hnr hb1 HJ H
  go_wp2_with fail
  go_loopw [14] (fun i wr => ∃ k : Nat, k ≤ N ∧ i = .int .i64 k ∧ Hid (∀ j, j < k → ((srt L).getD j (0, 0)).2 ≤ now) ∧ wr = w1) (fun i _ => N - (intOf i).toNat)
  case atStart => exact ⟨0, Nat.zero_le _, rfl, (fun j hj => by omega), rfl⟩
  case round =>
    obtain ⟨k, hk, rfl, HL, rfl⟩ := hrel
    by_cases hkN : k < N
    · obtain ⟨q, hq, eq⟩ := srt_at (L := L) (k := k) (by rw [← HN.out]; exact hkN)
      obtain ⟨_, eb, d1⟩ := HNR.out.at (j := k) (by rw [HEN.out]; exact hkN)
      injection eb with eb
      injection eb with eb _ _
      subst eb
      rw [ids_getD, eq] at d1
      dsimp only at d1
      have hmem := srt_mem (L := L) (Rd.getD_mem (P := srt L) (k := k) (by rw [← HN.out]; exact hkN))
      rw [eq] at hmem
      dsimp only at hmem
      have HEQ := Lib.hid eq
      have HDL := Lib.hid (qdl_any HQ.out q)
      obtain ⟨X, hX⟩ : ∃ X, X = L.getD q (-1) := ⟨_, rfl⟩
      have HXX := Lib.hid hX
      rw [decide_eq_true (show 0 ≤ dl L q by rw [hmem.1]; exact hmem.2.1)] at HDL
      have e1 : dk L q = X := by unfold dk; rw [if_pos (by rw [hmem.1]; exact hmem.2.1), hmem.1, hX]
      rw [e1] at HDL
      have hki : (k : Int) < (N : Int) := by omega
      have hk0 : (0 : Int) ≤ k := by omega
      have hkN2 : (k : Int) ≤ (N : Int) := by omega
      clear eq hX hq hmem e1
      by_cases hle : X ≤ now
      · have hd : decide (now < X) = false := by simpa using hle
        have HL2 : Hid (∀ j, j < k + 1 → ((srt L).getD j (0, 0)).2 ≤ now) := fun j hj => by
          by_cases e : j = k
          · subst e; rw [HEQ.out]; simp only; rw [← HXX.out]; exact hle
          · exact HL.out j (by omega)
        go_wp2_with fail
        refine HDL.out.mono ?_
        rintro e w2 ⟨rfl, rfl⟩
        go_wp2_with fail
        go_roundw
        case rel => exact ⟨k + 1, by omega, by go_num, HL2.out, trivial⟩
        case measure => simp [intOf]; omega
      · have hd : decide (now < X) = true := by simp; omega
        have HE : Hid (ids (lateL L now) = (ids (srt L)).take k) := by
          unfold Hid
          rw [late_take (L := L) (n := now) (k := k) (by rw [← HN.out]; exact hk) HL.out (fun _ => by rw [HEQ.out]; simp only; rw [← HXX.out]; omega)]
          unfold ids
          rw [List.map_take]
        have HIS := Lib.hid (IS.take (j := k) HNR.out.is (by rw [HEN.out]; exact hk))
        go_wp2_with fail
        refine HDL.out.mono ?_
        rintro e w2 ⟨rfl, rfl⟩
        go_wp2_with fail
        go_ret
        have hl : (ids (lateL L now)).length = k := by rw [HE.out, List.length_take, HEN.out]; omega
        refine ⟨b, N, by rw [hl]; first | done | rfl, ?_, HB1.out⟩
        rw [hl, HE.out]
        exact HIS.out
    · obtain rfl : k = N := by omega
      have HE : Hid (ids (lateL L now) = ids (srt L)) := by
        unfold Hid
        rw [late_take (L := L) (n := now) (k := k) (by rw [← HN.out]; exact hk) HL.out (fun hh => by rw [← HN.out] at hh; omega)]
        rw [HN.out, List.take_length]
      go_wp2_with fail
      go_ret
      have hl : (ids (lateL L now)).length = k := by rw [HE.out, HEN.out]
      refine ⟨b, k, by rw [hl]; first | done | rfl, ?_, HB1.out⟩
      rw [hl, HE.out]
      exact HNR.out.is
end Go.Proofs.Ytmdckfekjbhcfaa
