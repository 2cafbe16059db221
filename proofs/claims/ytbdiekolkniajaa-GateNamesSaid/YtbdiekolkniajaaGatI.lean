/- Those that are in, tested. -/
import Derived.Test.YtbdiekolkniajaaGatH
import Derived.Test.YtbdiekolkniajaaGatC
import Derived.Test.YtbdiekolkniajaaLocH
import Derived.Test.YtbdiekolkniajaaShaS
namespace Go.Proofs.Ytbdiekolkniajaa
open Go.RowKit Tk De Dl Lo Gt
set_option linter.unusedVariables false

/-! plainly -/
theorem filt_clr : ∀ {l : List (Pn × Value)} {b : List Bool}, b.length = l.length → (∀ q ∈ l, 1 ≤ q.1.per) → (filt (clr l b)).map (·.1) = subL (l.map (·.1)) b
  | [], [], _, _ => rfl
  | q :: l, true :: b, h, hp => by
    have ih := filt_clr (l := l) (b := b) (by simpa using h) (fun x hx => hp x (List.mem_cons.2 (Or.inr hx)))
    have hq : isQ q = true := by have := hp q (List.mem_cons.2 (Or.inl rfl)); unfold isQ; simp; omega
    unfold filt at ih ⊢
    simp only [clr, List.filter_cons, hq, if_true, List.map_cons, subL, ih]
  | q :: l, false :: b, h, hp => by
    have ih := filt_clr (l := l) (b := b) (by simpa using h) (fun x hx => hp x (List.mem_cons.2 (Or.inr hx)))
    have hq : isQ pz = false := rfl
    unfold filt at ih ⊢
    simp only [clr, List.filter_cons, hq, Bool.false_eq_true, if_false, List.map_cons, subL, ih]
def ixF (s : Nat) : List (Pn × Value) → List Nat
  | [] => []
  | q :: l => if isQ q then s :: ixF (s + 1) l else ixF (s + 1) l
theorem ixF_ixs : ∀ (l : List (Pn × Value)) (s : Nat), ((List.range l.length).filter fun i => isQ (l.getD i pr0)).map (· + s) = ixF s l
  | [], _ => rfl
  | q :: l, s => by
    rw [List.length_cons, List.range_succ_eq_map, List.filter_cons]
    have e : ((List.map Nat.succ (List.range l.length)).filter fun i => isQ ((q :: l).getD i pr0)).map (· + s) = ixF (s + 1) l := by
      rw [List.filter_map, List.map_map, ← ixF_ixs l (s + 1)]
      have e1 : ((fun i => isQ ((q :: l).getD i pr0)) ∘ Nat.succ) = fun i => isQ (l.getD i pr0) := funext fun i => by simp
      have e2 : ((fun x => x + s) ∘ Nat.succ) = fun x => x + (s + 1) := funext fun x => by simp only [Function.comp]; omega
      rw [e1, e2]
    simp only [List.getD_cons_zero, ixF]
    cases hq : isQ q with
    | true => rw [if_pos rfl, if_pos rfl, List.map_cons, e, Nat.zero_add]
    | false => rw [if_neg (by simp), if_neg (by simp), e]
theorem ixF_clr : ∀ {l : List (Pn × Value)} {b : List Bool} (s : Nat), b.length = l.length → (∀ q ∈ l, 1 ≤ q.1.per) → ixF s (clr l b) = idxL s b
  | [], [], _, _, _ => rfl
  | q :: l, true :: b, s, h, hp => by
    have ih := ixF_clr (l := l) (b := b) (s + 1) (by simpa using h) (fun x hx => hp x (List.mem_cons.2 (Or.inr hx)))
    have hq : isQ q = true := by have := hp q (List.mem_cons.2 (Or.inl rfl)); unfold isQ; simp; omega
    simp only [clr, ixF, hq, if_true, idxL, ih]
  | q :: l, false :: b, s, h, hp => by
    have ih := ixF_clr (l := l) (b := b) (s + 1) (by simpa using h) (fun x hx => hp x (List.mem_cons.2 (Or.inr hx)))
    have hq : isQ pz = false := rfl
    simp only [clr, ixF, hq, Bool.false_eq_true, if_false, idxL, ih]
theorem ixs_clr {l : List (Pn × Value)} {b : List Bool} (h : b.length = l.length) (hp : ∀ q ∈ l, 1 ≤ q.1.per) : ixs (clr l b) = idxL 0 b := by
  rw [← ixF_clr 0 h hp, ← ixF_ixs]
  simp [ixs]
theorem clr_in : ∀ {l : List (Pn × Value)} {b : List Bool} {q : Pn × Value}, q ∈ clr l b → q ∈ l ∨ q = pz
  | [], [], q, h => by cases h
  | [], _ :: _, q, h => by cases h
  | x :: l, [], q, h => Or.inl h
  | x :: l, true :: b, q, h => by
    rw [clr, List.mem_cons] at h
    rcases h with h | h
    · exact Or.inl (List.mem_cons.2 (Or.inl h))
    · rcases clr_in h with h | h
      · exact Or.inl (List.mem_cons.2 (Or.inr h))
      · exact Or.inr h
  | x :: l, false :: b, q, h => by
    rw [clr, List.mem_cons] at h
    rcases h with h | h
    · exact Or.inr h
    · rcases clr_in (l := l) (b := b) h with h | h
      · exact Or.inl (List.mem_cons.2 (Or.inr h))
      · exact Or.inr h
theorem sub_idx : ∀ (ps : List Pn) (b : List Bool) (s : Nat), b.length = ps.length → (idxL s b).length = (subL ps b).length
  | [], [], _, _ => rfl
  | a :: l, true :: b, s, h => by simp [idxL, subL, sub_idx l b (s + 1) (by simpa using h)]
  | a :: l, false :: b, s, h => by simp [idxL, subL, sub_idx l b (s + 1) (by simpa using h)]
theorem idx_lt : ∀ {b : List Bool} {s x : Nat}, x ∈ idxL s b → x < s + b.length
  | [], _, _, h => by cases h
  | true :: b, s, x, h => by
    rw [idxL, List.mem_cons] at h
    rcases h with rfl | h
    · simp
    · have := idx_lt h; simp; omega
  | false :: b, s, x, h => by
    have := idx_lt (b := b) (s := s + 1) h; simp; omega
/-! in memory -/
theorem OPs.ps {W : World} {B : Nat} {u : Value} {l : List (Pn × Value)} (h : OPs W B u l) (ht : ∀ q ∈ l, TK W q.2 q.1.n q.1.z ∧ q.1.n ≤ 2199023255552) : PS W u (l.map (·.1)) := by
  have hc := h
  rcases h.2 with ⟨rfl, h0⟩ | ⟨g, cap, cur, rfl, hg, hh, hnc, hcm, _⟩
  · have : l = [] := List.eq_nil_of_length_eq_zero h0
    subst this
    exact PS.nil _
  · refine ps_of (fun j u hj => ?_) (fun i hi => ?_) hnc hcm
    · have := World.ownsRow.cells hc (g := g) rfl j u hj
      rw [Addr.add_lit, Nat.zero_add] at this
      exact this
    · have hm : l.getD i pr0 ∈ l := by
        have : l.getD i pr0 = l[i] := by simp [List.getD, List.getElem?_eq_getElem hi]
        rw [this]; exact List.getElem_mem hi
      exact ht _ hm
/-- numbers that can be read -/
def NR (W : World) (m : Value) (xs : List Nat) : Prop := ∃ a c, m = .slice a xs.length c ∧ ∀ i, i < xs.length → ∃ g off, a = some ⟨g, off, none⟩ ∧ W.cell? ⟨g, off + i, none⟩ = some (.int .i64 (xs.getD i 0 : Nat))
theorem ONs.nr {W : World} {B : Nat} {m : Value} {xs : List Nat} (h : ONs W B m xs) : NR W m xs := by
  have hc := h
  rcases h.2 with ⟨rfl, h0⟩ | ⟨g, cap, cur, rfl, hg, hh, hnc, hcm, _⟩
  · exact ⟨none, 0, by rw [h0], fun i hi => by omega⟩
  · refine ⟨_, cap, rfl, fun i hi => ⟨g, 0, rfl, ?_⟩⟩
    have := World.ownsRow.cells hc (g := g) rfl i (.int .i64 (xs.getD i 0 : Nat)) (by simp [List.getElem?_map, List.getElem?_eq_getElem hi, List.getD])
    rw [Addr.add_lit] at this
    exact this
theorem NR.below {W W' : World} {m : Value} {xs : List Nat} (h : NR W m xs) (q : Below W.heap.size W W') : NR W' m xs := by
  obtain ⟨a, c, e, h1⟩ := h
  exact ⟨a, c, e, fun i hi => by obtain ⟨g, off, e2, hc⟩ := h1 i hi; exact ⟨g, off, e2, (q.cell (World.block_lt_of_cell? _ _ hc)).trans hc⟩⟩
theorem NR.at {W : World} {a : Option Addr} {n c : Nat} {xs : List Nat} (h : NR W (.slice a n c) xs) {i : Nat} (hi : i < n) : ∃ g off, a = some ⟨g, off, none⟩ ∧ W.cell? ⟨g, off + i, none⟩ = some (.int .i64 (xs.getD i 0 : Nat)) := by
  obtain ⟨a', c', e, h1⟩ := h
  obtain ⟨rfl, rfl, rfl⟩ : a = a' ∧ n = xs.length ∧ c = c' := by simpa using e
  exact h1 i hi
def ThreeR (r : Int × Int × Int) (w : World) (e : Ending) (w' : World) : Prop := e = .returned (.tuple #[.int .i64 r.1, .int .i64 r.2.1, .int .i64 r.2.2]) ∧ Below w.heap.size w w'
/-- what comes out of both: those that are in, and their numbers -/
theorem gathered_clr {w : World} {g : Nat} {l : List (Pn × Value)} {b : List Bool} (h : PB_ w g (clr l b)) (hl : l.length ≤ 4) (hb : b.length = l.length) (hp : ∀ q ∈ l, 1 ≤ q.1.per) (ht : ∀ q ∈ l, TK w q.2 q.1.n q.1.z ∧ q.1.n ≤ 2199023255552) :
    Calls Try.prog 20 #[.slice (some ⟨g, 0, none⟩) l.length l.length] w (fun e w' => ∃ u m, e = .returned (.tuple #[u, m]) ∧ PS w' u (subL (l.map (·.1)) b) ∧ NR w' m (idxL 0 b) ∧ Below w.heap.size w w') := by
  have htk : ∀ q ∈ clr l b, TK w q.2 q.1.n q.1.z ∧ q.1.n ≤ 2199023255552 := fun q hq => by
    rcases clr_in hq with hq | rfl
    · exact ht q hq
    · exact ⟨TK.nil _ _, Nat.zero_le _⟩
  have hg := gathered_any h (by rw [clr_len]; exact hl) (fun q hq => by obtain ⟨a, c, e, _⟩ := (htk q hq).1.slice; exact ⟨a, _, c, e⟩)
  rw [clr_len] at hg
  refine hg.mono fun e w' ⟨u, m, he, h1, h2, h3⟩ => ⟨u, m, he, ?_, ?_, h3⟩
  · rw [← filt_clr hb hp]
    exact h1.ps fun q hq => ⟨(htk q ((List.mem_filter.1 hq).1)).1.below h3, (htk q ((List.mem_filter.1 hq).1)).2⟩
  · rw [← ixs_clr hb hp]
    exact h2.nr
theorem shE_any {w : World} {v : Value} {l : List Pn} {r : Int} (h : PS w v l) (hr : shE l = r) : Calls Try.prog 22 #[v] w (YI r w) := by
  subst hr
  exact Sh.Test_any (Sh.sv_of_ps h)
theorem te_fit {w : World} {v : Value} {l : List Pn} {q t e : Int} (h : PS w v l) (hr : teR l q = (t, e)) : Calls Try.prog 23 #[v, .int .i64 q] w (TwoB t e w) := by
  have := Test_any h q
  rw [hr] at this
  exact this
set_option maxHeartbeats 2000000 in
theorem tested_any {w : World} {v u : Value} {ps : List Pn} {ins : List Bool} (h : PS w v ps) (hu : BV w u ins) (hi : ins.length = ps.length) (hl : ps.length ≤ 4) (hp : ∀ x ∈ ps, 1 ≤ x.per) : Calls Try.prog 15 #[v, u] w (ThreeR (gtIn (subL ps ins) (idxL 0 ins)) w) := by
  obtain ⟨a, cap, rfl, hn1, hn2⟩ := h.slice
  obtain ⟨l, hlp, hpl⟩ := h.pl
  subst hlp
  rw [List.length_map] at hl hi hn1 ⊢
  have hp2 : ∀ q ∈ l, 1 ≤ q.1.per := fun q hq => hp q.1 (List.mem_map.2 ⟨q, hq, rfl⟩)
  have HC := Lib.hid (cleared_any (cap := cap) hpl hu hl hi)
  have HGT := Lib.hid (fun w1 (x : PB_ w1 w.heap.size (clr l ins)) (y : Below w.heap.size w w1) => gathered_clr x hl hi hp2 (fun q hq => ⟨(hpl.t q hq).1.below y, (hpl.t q hq).2⟩))
  unfold ClrP at HC
  obtain ⟨bp, bc, rfl, hb1, hb2⟩ := hu.slice
  have HIX := Lib.hid (sub_idx (l.map (·.1)) ins 0 (by rw [List.length_map]; exact hi))
  have HSL : Hid ((subL (l.map (·.1)) ins).length ≤ 4) := Nat.le_trans sub_len (by rw [List.length_map]; exact hl)
  generalize subL (l.map (·.1)) ins = L at *
  generalize idxL 0 ins = A at *
  generalize ins.length = b0 at *
  clear h hpl hu hp hp2 hi hn1 hn2 hb1 hb2
  generalize l.length = n at *
  clear hl
  obtain ⟨R, hR⟩ : ∃ R, gtIn L A = R := ⟨_, rfl⟩
  have HR := Lib.hid hR
  rw [hR]
  clear hR
  go_enter Try.func15, Try.ntmps15
  go_wp2_with fail
  refine HC.out.mono ?_
  rintro e w1 ⟨rfl, hq, hb⟩
  have HB1 := Lib.hid hb
  have HG2 := Lib.hid (HGT.out w1 hq hb)
  clear hq hb HGT HC
  go_wp2_with fail
  refine HG2.out.mono ?_
  rintro e w2 ⟨u, m, rfl, hu, hm, hb⟩
  obtain ⟨ua, uc, rfl, hu1, hu2⟩ := hu.slice
  obtain ⟨N, hN⟩ : ∃ N, N = L.length := ⟨_, rfl⟩
  have HN := Lib.hid hN
  rw [← hN] at hu hu1 HSL HIX ⊢
  obtain ⟨ma, mc, rfl⟩ : ∃ a c, m = .slice a N c := by
    obtain ⟨a, c, e, _⟩ := hm
    exact ⟨a, c, by rw [e, HIX.out]⟩
  have HU := Lib.hid hu
  have HM := Lib.hid hm
  have HB2 := Lib.hid (chn HB1.out hb)
  obtain ⟨s, hs⟩ : ∃ s, shE L = s := ⟨_, rfl⟩
  have HST := Lib.hid (shE_any hu hs)
  have HS := Lib.hid hs
  clear hs hu hm hb hu1 hu2 hN HG2 HB1
  go_wp2_with fail
  refine HST.out.mono ?_
  rintro e w3 ⟨rfl, hb⟩
  have HU3 := Lib.hid (HU.out.below hb)
  have HM3 := Lib.hid (HM.out.below hb)
  have HB3 := Lib.hid (chn HB2.out hb)
  clear hb HU HM HB2 HST
  by_cases hz : s = 0
  · subst hz
    have HRF : Hid (R = firstNo L A 0 N) := by
      have := HR.out
      unfold gtIn at this
      rw [if_pos HS.out, ← HN.out] at this
      exact this.symm
    clear HR HS
    have hN4 := HSL.out
    go_wp2_with fail
    go_loopw [25] (fun i wr => ∃ k : Nat, k ≤ N ∧ i = .int .i64 k ∧ Hid (R = firstNo L A k (N - k)) ∧ Hid (PS wr (.slice ua N uc) L ∧ NR wr (.slice ma N mc) A ∧ Below w.heap.size w wr)) (fun i _ => N - (intOf i).toNat)
    case atStart => exact ⟨0, by omega, rfl, HRF.out, HU3.out, HM3.out, HB3.out⟩
    case round =>
      clear HRF HU3 HM3 HB3
      obtain ⟨k, hk, rfl, HF, HW⟩ := hrel
      by_cases hlt : k < N
      · obtain ⟨g, off, rfl, hc⟩ := HW.out.2.1.at hlt
        obtain ⟨t, e, hte⟩ : ∃ t e, teR L (k : Nat) = (t, e) := ⟨_, _, rfl⟩
        have HTE := Lib.hid (te_fit HW.out.1 hte)
        have HFS : Hid (R = if e = 0 then firstNo L A (k + 1) (N - (k + 1)) else (((A.getD k 0 : Nat) : Int), t, e)) := by
          have := HF.out
          rw [show N - k = (N - (k + 1)) + 1 by omega, firstNo, hte] at this
          exact this
        clear hte HF
        generalize A.getD k 0 = y at *
        go_wp2_with fail
        refine HTE.out.mono ?_
        rintro e1 w4 ⟨rfl, hb⟩
        have HW4 : Hid (PS w4 (.slice ua N uc) L ∧ NR w4 (.slice (some ⟨g, off, none⟩) N mc) A ∧ Below w.heap.size w w4) := ⟨HW.out.1.below hb, HW.out.2.1.below hb, chn HW.out.2.2 hb⟩
        clear hb HW HTE
        by_cases he : e = 0
        · subst he
          have HF2 : Hid (R = firstNo L A (k + 1) (N - (k + 1))) := by have := HFS.out; rw [if_pos rfl] at this; exact this
          clear HFS
          go_wp2_with fail
          go_roundw
          case rel => exact ⟨k + 1, by omega, by go_num, HF2.out, HW4.out⟩
          case measure => simp [intOf]; omega
        · have hef : (e == 0) = false := by simp; exact he
          have HF2 : Hid (R = (((y : Nat) : Int), t, e)) := by have := HFS.out; rw [if_neg he] at this; exact this
          clear HFS
          go_wp2_with fail
          go_ret3
          exact ⟨by rw [HF2.out]; rfl, HW4.out.2.2⟩
      · obtain rfl : k = N := by omega
        have HF2 : Hid (R = (-1, 0, 0)) := by have := HF.out; rw [Nat.sub_self] at this; exact this
        clear HF
        go_wp2_with fail
        go_ret3
        exact ⟨by rw [HF2.out]; rfl, HW.out.2.2⟩
  · have hsf : (s == 0) = false := by simp; exact hz
    have HF2 : Hid (R = (-1, 0, s)) := by
      have := HR.out
      unfold gtIn at this
      rw [HS.out, if_neg hz] at this
      exact this.symm
    clear HR HS
    go_wp2_with fail
    go_ret3
    exact ⟨by rw [HF2.out]; rfl, HB3.out⟩
end Go.Proofs.Ytbdiekolkniajaa
