/- Partitions that came in, read as cells. -/
import Derived.Test.YtfjeoefnpcgnnaaDelA
import Derived.Test.YtfjeoefnpcgnnaaRows
import Derived.Deep.Slices
import Derived.Deep.Fields
import Derived.ChangeSame
import Derived.OpenShut
import Derived.SizedLaws
namespace Go.Proofs.Ytfjeoefnpcgnnaa
open Go.RowKit Tk De Dl Go.ChangeShapes Go.WideShapes Go.Deep
set_option linter.unusedVariables false

section
variable {H : Type} {enc : TypeId × Value → H} {P : Program} {w : World} {base : Nat} {spare : Nat → Bool} {held : Bool}
/-- the cells of a struct of numbers -/
theorem num_cells {fs : Array Field} {e : TypeId} {K : Nat} (he : P.underlying e = some (.struct fs)) (hs : fs.size = K) (hone : oneCellFields P fs = true) (hC : P.cellsOf e = K) (hty : ∀ (j : Nat) (f : Field), fs[j]? = some f → P.underlying f.type = some (.int .i64))
    {n : Nat} {cs : List Value} {x : DataW H × List MemPlace} (h : DataW.trod enc P w base spare held n e cs = some x) : ∀ j, j < K → ∃ z : Int, cs[j]? = some (.int .i64 z) := by
  intro j hj
  obtain ⟨xs, k, hn, _, hlen, hxs, hf⟩ := DataW.trod_struct he h
  have hfj : fs[j]? = some (fs[j]'(by omega)) := Array.getElem?_eq_getElem (by omega)
  obtain ⟨ho, hk⟩ := hone_of hone j _ hfj
  have h1 := hf j _ hfj
  rw [ho, hk, List.getElem?_eq_getElem (by omega)] at h1
  obtain ⟨z, hz, _, _⟩ := DataW.trod_int (hty j _ hfj) h1
  refine ⟨z, ?_⟩
  have h2 : ((cs.drop j).take 1)[0]? = some (.int .i64 z) := by rw [hz]; rfl
  rw [List.getElem?_take, if_pos (by omega), List.getElem?_drop] at h2
  simpa using h2
/-- a list of structs of K numbers each -/
theorem open_rows {t e : TypeId} {fs : Array Field} {fuel K : Nat} {cs : List Value} {x : DataW H × List MemPlace} (hK : 0 < K) (ht : P.underlying t = some (.slice e)) (he : P.underlying e = some (.struct fs)) (hs : fs.size = K)
    (hone : oneCellFields P fs = true) (hC : P.cellsOf e = K) (hty : ∀ (j : Nat) (f : Field), fs[j]? = some f → P.underlying f.type = some (.int .i64)) (h : DataW.trod enc P w base spare held fuel t cs = some x) :
    ∃ (v : Value) (n : Nat) (z : Nat → Nat → Int), cs = [v] ∧ ((v = .slice none 0 0 ∧ n = 0 ∧ x.1 = .nil) ∨ ∃ (a : Addr) (cap : Nat) (el sp : List (DataW H)), v = .slice (some a) n cap ∧ n ≤ cap ∧ cap ≤ maxLen ∧ x.1 = .slice el sp ∧ el.length = n ∧
      (0 < n → ∃ b off, a = ⟨b, off, none⟩ ∧ ∀ i j, i < n → j < K → w.cell? ⟨b, off + i * K + j, none⟩ = some (.int .i64 (z i j)))) := by
  rcases open_slice ht h with ⟨h0, hx⟩ | ⟨a, len, cap, m, n, D, Pl, hcs, hb, hl, hm, hmm, hx, hi⟩
  · exact ⟨_, 0, fun _ _ => 0, h0, Or.inl ⟨rfl, rfl, by rw [hx]⟩⟩
  · have hlm : len ≤ m := by rw [hmm]; split <;> omega
    have hz : ∀ i j, ∃ z : Int, i < len → j < K → w.cell? (a.add (i * K + j)) = some (.int .i64 z) := by
      intro i j
      by_cases hij : i < len ∧ j < K
      · obtain ⟨cs', hc, ht'⟩ := hi i (by omega)
        rw [hC] at hc
        obtain ⟨z, hz⟩ := num_cells he hs hone hC hty ht' j hij.2
        obtain ⟨_, _, hat⟩ := World.cells?_some hc
        refine ⟨z, fun _ _ => ?_⟩
        have := hat j hij.2
        rw [add_add] at this
        rw [this, hz]
      · exact ⟨0, fun h1 h2 => (hij ⟨h1, h2⟩).elim⟩
    obtain ⟨z, hzz⟩ : ∃ z : Nat → Nat → Int, ∀ i j, i < len → j < K → w.cell? (a.add (i * K + j)) = some (.int .i64 (z i j)) := ⟨fun i j => Classical.choose (hz i j), fun i j => Classical.choose_spec (hz i j)⟩
    refine ⟨_, len, z, hcs, Or.inr ⟨a, cap, _, _, rfl, hl, hm, by rw [hx], by simp, fun h0 => ?_⟩⟩
    have hc0 := hzz 0 0 h0 hK
    obtain ⟨b, off, s⟩ := a
    have hsp : s = none := by simpa [Addr.add] using World.cell?_spot hc0
    subst hsp
    refine ⟨b, off, rfl, fun i j h1 h2 => ?_⟩
    have := hzz i j h1 h2
    rw [Addr.add_lit, ← Nat.add_assoc] at this
    exact this
/-- of how many elements a datum is -/
def dLen : DataW H → Nat
  | .slice el _ => el.length
  | _ => 0
/-- one cell's reading -/
theorem int_cell {t : TypeId} {n : Nat} {cs : List Value} {x : DataW H × List MemPlace} (ht : P.underlying t = some (.int .i64)) (h : DataW.trod enc P w base spare held n t cs = some x) : ∃ z : Int, cs = [.int .i64 z] := by
  obtain ⟨z, hz, _⟩ := DataW.trod_int ht h; exact ⟨z, hz⟩
end

section
variable {H : Type} {enc : TypeId × Value → H} {w : World} {spare : Nat → Bool} {held : Bool}
theorem open_ts {fuel : Nat} {cs : List Value} {x : DataW H × List MemPlace} (h : DataW.trod enc Try.prog w 0 spare held fuel 51 cs = some x) : ∃ v n z, cs = [v] ∧ TK w v n z ∧ dLen x.1 = n := by
  obtain ⟨v, n, z, hcs, hd⟩ := open_rows (K := 8) (by decide) Try.underlying51 Try.underlying129 rfl (by kernel_rfl) (by kernel_rfl) (fun j f hj => by
    match j, hj with
    | 0, hj => simp at hj; subst hj; exact Try.underlying3
    | 1, hj => simp at hj; subst hj; exact Try.underlying3
    | 2, hj => simp at hj; subst hj; exact Try.underlying3
    | 3, hj => simp at hj; subst hj; exact Try.underlying3
    | 4, hj => simp at hj; subst hj; exact Try.underlying3
    | 5, hj => simp at hj; subst hj; exact Try.underlying3
    | 6, hj => simp at hj; subst hj; exact Try.underlying3
    | 7, hj => simp at hj; subst hj; exact Try.underlying3
    | j + 8, hj => simp at hj) h
  rcases hd with ⟨rfl, rfl, hx⟩ | ⟨a, cap, el, sp, rfl, h1, h2, hx, hel, h3⟩
  · exact ⟨_, 0, z, hcs, TK.nil _ _, by rw [hx]; rfl⟩
  · refine ⟨_, n, z, hcs, ⟨some a, cap, rfl, h1, h2, (fun h => by cases h), fun hp => ?_⟩, by rw [hx]; simp [dLen, hel]⟩
    obtain ⟨b, off, rfl, hc⟩ := h3 hp
    exact ⟨b, off, rfl, fun i hi j hj => hc i j hi hj⟩
/-- of how many tasks a partition's datum is -/
def dTasks : DataW H → Nat
  | .agg [_, _, d] => dLen d
  | _ => 0
set_option maxRecDepth 100000 in
theorem open_pt {fuel : Nat} {cs : List Value} {x : DataW H × List MemPlace} (h : DataW.trod enc Try.prog w 0 spare held fuel 53 cs = some x) :
    ∃ per bud tv n z, cs = [.int .i64 per, .int .i64 bud, tv] ∧ TK w tv n z ∧ dTasks x.1 = n := by
  obtain ⟨xs, n, _, hx, hlen, hxs, hf⟩ := DataW.trod_struct Try.underlying53 h
  have hl3 : cs.length = 3 := by rw [hlen]; kernel_rfl
  match cs, hl3, xs, hxs with
  | [c0, c1, c2], _, [x0, x1, x2], _ =>
    have g0 := hf 0 _ rfl
    have g1 := hf 1 _ rfl
    have g2 := hf 2 _ rfl
    have q3 : Try.prog.cellsOf 3 = 1 := by kernel_rfl
    have q9 : Try.prog.cellsOf 51 = 1 := by kernel_rfl
    simp [q3, q9] at g0 g1 g2
    obtain ⟨per, h0⟩ := int_cell Try.underlying3 g0
    obtain ⟨bud, h1⟩ := int_cell Try.underlying3 g1
    obtain ⟨tv, k, z, h2, h3, h4⟩ := open_ts g2
    refine ⟨per, bud, tv, k, z, ?_, h3, by rw [hx]; exact h4⟩
    simp only [List.cons.injEq, and_true] at h0 h1 h2
    rw [h0, h1, h2]
theorem getD_map_range {α : Type} {n i : Nat} (f : Nat → α) (d : α) (hi : i < n) : ((List.range n).map f).getD i d = f i := by simp [List.getD, hi]
theorem open_ps {fuel : Nat} {cs : List Value} {x : DataW H × List MemPlace} (h : DataW.trod enc Try.prog w 0 spare held fuel 22 cs = some x) (hbd : ∀ el sp, x.1 = .slice el sp → ∀ d ∈ el, dTasks d ≤ 2199023255552) :
    ∃ v ps, cs = [v] ∧ PS w v ps := by
  rcases open_slice Try.underlying22 h with ⟨h0, hx⟩ | ⟨a, len, cap, m, n, D, Pl, hcs, hb, hl, hm, hmm, hx, hi⟩
  · exact ⟨_, [], h0, PS.nil _⟩
  · have hlm : len ≤ m := by rw [hmm]; split <;> omega
    have hC : Try.prog.cellsOf 53 = 3 := by kernel_rfl
    rw [hC] at hi
    have each : ∀ i, ∃ q : Pn × Value, i < len → w.cell? (a.add (i * 3)) = some (.int .i64 q.1.per) ∧ w.cell? (a.add (i * 3 + 1)) = some (.int .i64 q.1.bud) ∧ w.cell? (a.add (i * 3 + 2)) = some q.2 ∧ TK w q.2 q.1.n q.1.z ∧ q.1.n ≤ 2199023255552 := by
      intro i
      by_cases hil : i < len
      · obtain ⟨cs', hc, ht⟩ := hi i (by omega)
        obtain ⟨per, bud, tv, k, z, rfl, h1, h2⟩ := open_pt ht
        obtain ⟨_, _, hat⟩ := World.cells?_some hc
        have a0 := hat 0 (by decide)
        have a1 := hat 1 (by decide)
        have a2 := hat 2 (by decide)
        rw [add_add] at a0 a1 a2
        have hd : D i ∈ (List.range len).map D := List.mem_map.2 ⟨i, by simpa using hil, rfl⟩
        have := hbd _ _ (by rw [hx]) (D i) hd
        exact ⟨(⟨per, bud, k, z⟩, tv), fun _ => ⟨by simpa using a0, by simpa using a1, by simpa using a2, h1, by show k ≤ _; rw [← h2]; exact this⟩⟩
      · exact ⟨(p0, .bool false), fun hh => absurd hh hil⟩
    obtain ⟨q, hq⟩ : ∃ q : Nat → Pn × Value, ∀ i, i < len → w.cell? (a.add (i * 3)) = some (.int .i64 (q i).1.per) ∧ w.cell? (a.add (i * 3 + 1)) = some (.int .i64 (q i).1.bud) ∧ w.cell? (a.add (i * 3 + 2)) = some (q i).2 ∧ TK w (q i).2 (q i).1.n (q i).1.z ∧ (q i).1.n ≤ 2199023255552 :=
      ⟨fun i => Classical.choose (each i), fun i => Classical.choose_spec (each i)⟩
    refine ⟨_, (List.range len).map (fun i => (q i).1), hcs, ⟨some a, cap, by simp, by simpa using hl, hm, (fun h => by cases h), fun hp => ?_⟩⟩
    simp only [List.length_map, List.length_range] at hp ⊢
    have hc0 := (hq 0 hp).1
    obtain ⟨b, off, s⟩ := a
    have hsp : s = none := by simpa [Addr.add] using World.cell?_spot hc0
    subst hsp
    refine ⟨b, off, rfl, fun i hi' => ?_⟩
    obtain ⟨b0, b1, b2, b3, b4⟩ := hq i hi'
    rw [Addr.add_lit] at b0 b1 b2
    rw [getD_map_range _ _ hi']
    exact ⟨b0, by rw [← Nat.add_assoc] at b1; exact b1, (q i).2, by rw [← Nat.add_assoc] at b2; exact b2, b3, b4⟩
theorem weights_all {P : Program} {e : TypeId} {l : List (DataW H)} {d : DataW H} (hd : d ∈ l) : ∀ n ∈ d.weights P e, n ∈ DataW.weightsAll P e l := by
  induction l with
  | nil => cases hd
  | cons x l ih =>
    intro n hn
    simp only [DataW.weightsAll, List.mem_append]
    rcases List.mem_cons.1 hd with rfl | hd
    · exact Or.inl hn
    · exact Or.inr (ih hd n hn)
theorem slice_size {t e : TypeId} {B : Nat} {d : DataW H} (ht : Try.prog.underlying t = some (.slice e)) (hb : Try.prog.bytesOf e = B) (h : ∀ n ∈ d.weights Try.prog t, n ≤ reachBytes) : dLen d * B ≤ reachBytes := by
  cases d with
  | slice el sp =>
    have := h ((el.length + sp.length) * Try.prog.bytesOf e) (by simp [DataW.weights, ht])
    rw [hb] at this
    have h2 : el.length * B ≤ (el.length + sp.length) * B := Nat.mul_le_mul_right _ (by omega)
    simp only [dLen]; omega
  | _ => simp [dLen]
theorem bytes_tk : Try.prog.bytesOf 129 = 64 := by kernel_rfl
set_option maxRecDepth 100000 in
theorem part_size {d : DataW H} (hw : ∀ n ∈ d.weights Try.prog 53, n ≤ reachBytes) : dTasks d ≤ 2199023255552 := by
  have hr : reachBytes = 140737488351232 := by decide
  match d with
  | .agg [x, y, z] =>
    have := slice_size Try.underlying51 bytes_tk (fun n hn => hw n (by simp [DataW.weights, Try.underlying53, DataW.weightsEach]; exact Or.inr (Or.inr hn)))
    rw [hr] at this
    show dLen z ≤ _
    omega
  | .agg [] => simp [dTasks]
  | .agg [_] => simp [dTasks]
  | .agg [_, _] => simp [dTasks]
  | .agg (_ :: _ :: _ :: _ :: _) => simp [dTasks]
  | .lit _ => simp [dTasks]
  | .nil => simp [dTasks]
  | .ptr _ => simp [dTasks]
  | .slice _ _ => simp [dTasks]
  | .iface _ _ => simp [dTasks]
  | .map _ => simp [dTasks]
  | .held _ => simp [dTasks]
theorem parts_size {d : DataW H} (hp : ∀ n ∈ d.weights Try.prog 22, n ≤ reachBytes) : ∀ el sp, d = .slice el sp → ∀ x ∈ el, dTasks x ≤ 2199023255552 := by
  rintro el sp rfl x hx
  exact part_size (fun n hn => hp n (by
    simp only [DataW.weights, Try.underlying22, List.mem_cons, List.mem_append]
    exact Or.inr (Or.inl (weights_all hx n hn))))
end
end Go.Proofs.Ytfjeoefnpcgnnaa
