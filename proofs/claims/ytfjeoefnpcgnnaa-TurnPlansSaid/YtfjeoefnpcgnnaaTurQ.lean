/- What a plan is asked with: servers, begins, how many ticks. -/
import Derived.Test.YtfjeoefnpcgnnaaTurM
import Derived.Deep.OwnRows
namespace Go.Proofs.Ytfjeoefnpcgnnaa.Pw
open Go.RowKit Go.Sort Pu
set_option linter.unusedVariables false
set_option maxRecDepth 100000

/-- servers that can be read (their tasks are not looked at) -/
def SV (w : World) (v : Value) (n : Nat) (p b : Nat → Int) : Prop :=
  ∃ a cap, v = .slice a n cap ∧ n ≤ cap ∧ cap ≤ maxLen ∧ (a = none → cap = 0) ∧
    (0 < n → ∃ g off, a = some ⟨g, off, none⟩ ∧ ∀ i, i < n → w.cell? ⟨g, off + i * 3, none⟩ = some (.int .i64 (p i)) ∧ w.cell? ⟨g, off + i * 3 + 1, none⟩ = some (.int .i64 (b i)) ∧ ∃ ta tn tc, w.cell? ⟨g, off + i * 3 + 2, none⟩ = some (.slice ta tn tc))
theorem SV.slice {w : World} {v : Value} {n : Nat} {p b : Nat → Int} (h : SV w v n p b) : ∃ a cap, v = .slice a n cap ∧ n ≤ cap ∧ cap ≤ maxLen := by obtain ⟨a, cap, h1, h2, h3, _⟩ := h; exact ⟨a, cap, h1, h2, h3⟩
theorem SV.below {w w' : World} {v : Value} {n : Nat} {p b : Nat → Int} (h : SV w v n p b) (q : Below w.heap.size w w') : SV w' v n p b := by
  obtain ⟨a, cap, h1, h2, h3, h4, h5⟩ := h
  refine ⟨a, cap, h1, h2, h3, h4, fun hn => ?_⟩
  obtain ⟨g, off, e, hc⟩ := h5 hn
  refine ⟨g, off, e, fun i hi => ?_⟩
  obtain ⟨c0, c1, ta, tn, tc, c2⟩ := hc i hi
  exact ⟨(q.cell (lt_of_cell c0)).trans c0, (q.cell (lt_of_cell c1)).trans c1, ta, tn, tc, (q.cell (lt_of_cell c2)).trans c2⟩
theorem SV.at {w : World} {n cap m : Nat} {a : Option Addr} {p b : Nat → Int} (h : SV w (.slice a n cap) m p b) {i : Nat} (hi : i < n) : ∃ g off ta tn tc, a = some ⟨g, off, none⟩ ∧ w.cell? ⟨g, off + i * 3, none⟩ = some (.int .i64 (p i)) ∧ w.cell? ⟨g, off + i * 3 + 1, none⟩ = some (.int .i64 (b i)) ∧ w.cell? ⟨g, off + i * 3 + 2, none⟩ = some (.slice ta tn tc) := by
  obtain ⟨a', cap', e, h1, h2, h3, h4⟩ := h
  obtain ⟨rfl, rfl, rfl⟩ : a = a' ∧ n = m ∧ cap = cap' := by simpa using e
  obtain ⟨g, off, rfl, hc⟩ := h4 (by omega)
  obtain ⟨c0, c1, ta, tn, tc, c2⟩ := hc i hi
  exact ⟨g, off, ta, tn, tc, rfl, c0, c1, c2⟩
/-- may there be such a server, and may it begin then? -/
def okAt (p q b : Int) : Prop := may p q ∧ 0 ≤ b ∧ b ≤ 1000
instance (p q b : Int) : Decidable (okAt p q b) := by unfold okAt; infer_instance
/-- what is wrong with what a plan is asked with -/
def plE (m : Nat) (p q : Nat → Int) (bs : List Int) (n : Int) : Int := if 4 < m ∨ n < 0 ∨ 1000 < n then 5 else if bs.length ≠ m then 2 else if ∀ i, i < m → okAt (p i) (q i) (bs.getD i 0) then 0 else 2
theorem plE_many {m : Nat} {p q : Nat → Int} {bs : List Int} {n : Int} (h : 4 < m ∨ n < 0 ∨ 1000 < n) : plE m p q bs n = 5 := if_pos h
theorem plE_len {m : Nat} {p q : Nat → Int} {bs : List Int} {n : Int} (h : ¬ (4 < m ∨ n < 0 ∨ 1000 < n)) (h2 : bs.length ≠ m) : plE m p q bs n = 2 := by unfold plE; rw [if_neg h, if_pos h2]
theorem plE_bad {m : Nat} {p q : Nat → Int} {bs : List Int} {n : Int} (h : ¬ (4 < m ∨ n < 0 ∨ 1000 < n)) (h2 : bs.length = m) {i : Nat} (hi : i < m) (h3 : ¬ okAt (p i) (q i) (bs.getD i 0)) : plE m p q bs n = 2 := by unfold plE; rw [if_neg h, if_neg (by simpa using h2), if_neg (fun x => h3 (x i hi))]
theorem plE_ok {m : Nat} {p q : Nat → Int} {bs : List Int} {n : Int} (h : ¬ (4 < m ∨ n < 0 ∨ 1000 < n)) (h2 : bs.length = m) (h3 : ∀ i, i < m → okAt (p i) (q i) (bs.getD i 0)) : plE m p q bs n = 0 := by unfold plE; rw [if_neg h, if_neg (by simpa using h2), if_pos h3]
theorem plE_zero {m : Nat} {p q : Nat → Int} {bs : List Int} {n : Int} (h : plE m p q bs n = 0) : m ≤ 4 ∧ 0 ≤ n ∧ n ≤ 1000 ∧ bs.length = m ∧ ∀ i, i < m → okAt (p i) (q i) (bs.getD i 0) := by
  unfold plE at h
  split at h
  · cases h
  · split at h
    · cases h
    · split at h
      · rename_i h1 h2 h3; exact ⟨by omega, by omega, by omega, by simpa using h2, h3⟩
      · cases h
theorem nwE_at0 (p q : Int) : nwE p q 0 = if may p q then 0 else 2 := by
  unfold nwE
  by_cases h : may p q
  · rw [if_neg (by rintro (x | x); exact x h; omega), if_neg (by omega), if_pos h]
  · rw [if_pos (Or.inl h), if_neg h]
theorem made_at' {z : Value} {n i : Nat} (h : i < n) : (madeCells #[z] n)[i]? = some z := by simp [madeCells, h, Nat.mod_one]
theorem PM.start {B0 : Nat} {W w : World} {T : TypeId} {PD : World → Nat → St → Prop} (m : Nat) (hl : B0 ≤ W.heap.size) (hb : Below W.heap.size W w) : PM PD T B0 W (w.alloc (.cells (madeCells #[.pointer none] m) T)) w.heap.size m (fun _ => 0) (fun _ => none) (.slice none 0 0) [] where
  row := ⟨_, heap_alloc_new w _, fun i hi => made_at' hi⟩
  hg := Nat.le_trans hl hb.size
  pu _ _ _ e := by cases e
  ap _ _ _ _ _ _ e := by cases e
  nr := World.ownsRow_nil _ _ _ _
  bel := ((hb.trans ((below_al w _).mono hb.size)).mono hl)
  le := hl
theorem SV.congr {w : World} {v : Value} {n : Nat} {p b p' b' : Nat → Int} (h : SV w v n p b) (e : ∀ i, i < n → p i = p' i ∧ b i = b' i) : SV w v n p' b' := by
  obtain ⟨a, cap, h1, h2, h3, h4, h5⟩ := h
  refine ⟨a, cap, h1, h2, h3, h4, fun hn => ?_⟩
  obtain ⟨g, off, e', hc⟩ := h5 hn
  refine ⟨g, off, e', fun i hi => ?_⟩
  rw [← (e i hi).1, ← (e i hi).2]
  exact hc i hi
theorem PM.app {PD : World → Nat → St → Prop} {T : TypeId} {B0 : Nat} {W w : World} {g m : Nat} {c : Nat → Nat} {s : Nat → Option St} {v : Value} {xs : List Int} (K : PK PD T) (hT : T ≠ 3) (h : PM PD T B0 W w g m c s v xs) (x : Int) (hn : xs.length ≤ 1000) :
    ∃ a cap w', (Builtin.append_ #[23, 23] 23 #[v, .slice (some ⟨w.heap.size, 0, none⟩) 1 1]).run Try.prog (w.alloc (.cells #[.int .i64 x] 3)) = .ok (.slice a (xs ++ [x]).length cap) w' ∧ PM PD T B0 W w' g m c s (.slice a (xs ++ [x]).length cap) (xs ++ [x]) := by
  have h' := h.below K (below_al w (.cells #[.int .i64 x] 3))
  obtain ⟨v', w1, hrun, hown, hgr, _⟩ := app_num2 (w := w.alloc (.cells #[.int .i64 x] 3)) 23 x h'.nr (g := w.heap.size) (heap_alloc_new w _) h'.B0le hn
  obtain ⟨a, cap, rfl⟩ := hown.is_form
  exact ⟨a, cap, w1, hrun, h'.grown K hT hgr hown⟩
/-- so many ticks of a plan -/
def ticks (m : Nat) (P B b : Nat → Nat) (t : Nat) : List Int := (List.range t).map (Tu.pl m P B b)
theorem ticks_succ (m : Nat) (P B b : Nat → Nat) (t : Nat) : ticks m P B b (t + 1) = ticks m P B b t ++ [Tu.pl m P B b t] := by unfold ticks; rw [List.range_succ, List.map_append]; rfl
theorem ticks_len (m : Nat) (P B b : Nat → Nat) (t : Nat) : (ticks m P B b t).length = t := by unfold ticks; simp
/-- servers that may be -/
def Srv (m : Nat) (P B b : Nat → Nat) : Prop := m ≤ 4 ∧ ∀ i, i < m → (1 ≤ P i ∧ P i ≤ 64 ∧ 1 ≤ B i ∧ B i ≤ P i) ∧ b i ≤ 1000
/-- a plan -/
def PlanP (m : Nat) (P B b : Nat → Nat) (N : Nat) (w : World) (E : Ending) (w' : World) : Prop := ∃ v, E = .returned (.tuple #[v, .int .i64 0]) ∧ NR w' w.heap.size v (ticks m P B b N) ∧ Below w.heap.size w w'
/-- a plan, of numbers as they came in -/
def tk (m : Nat) (p q : Nat → Int) (bs : List Int) (n : Int) : List Int := ticks m (fun i => (p i).toNat) (fun i => (q i).toNat) (fun i => (bs.getD i 0).toNat) n.toNat
def PlanI (m : Nat) (p q : Nat → Int) (bs : List Int) (n : Int) (w : World) (E : Ending) (w' : World) : Prop := ∃ r, E = .returned (.tuple #[r, .int .i64 0]) ∧ IS w' r (tk m p q bs n) ∧ Below w.heap.size w w'
end Go.Proofs.Ytfjeoefnpcgnnaa.Pw
