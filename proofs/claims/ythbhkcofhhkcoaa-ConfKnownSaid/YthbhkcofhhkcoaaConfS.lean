/- The document's Copy. -/
import Derived.Test.YthbhkcofhhkcoaaConfN
import Derived.Test.YthbhkcofhhkcoaaConfI
namespace Go.Proofs.Ythbhkcofhhkcoaa
open Go.RowKit Pk Cn
set_option linter.unusedVariables false

/-- of no list is there more than memory holds -/
def CfgSize (c : Cf) : Prop := c.ps.length * 40 ≤ 140737488351232 ∧ c.os.length * 48 ≤ 140737488351232 ∧ ∀ i, i < c.ps.length → (c.ps.getD i pt0).ts.length * 64 ≤ 140737488351232
theorem chunk_get {α β : Type} {K : Nat} (f : α → List β) (hf : ∀ x, (f x).length = K) (d : α) : ∀ (l : List α) (i j : Nat), i < l.length → j < K → (l.flatMap f)[i * K + j]? = (f (l.getD i d))[j]?
  | [], i, j, hi, _ => by cases hi
  | x :: l, 0, j, _, hj => by
    rw [List.flatMap_cons, Nat.zero_mul, Nat.zero_add, List.getElem?_append_left (by rw [hf]; exact hj)]
    rfl
  | x :: l, i + 1, j, hi, hj => by
    rw [List.flatMap_cons, List.getElem?_append_right (by rw [hf, Nat.succ_mul]; omega), hf, show (i + 1) * K + j - K = i * K + j by rw [Nat.succ_mul]; omega]
    exact chunk_get f hf d l i j (by simpa using hi) hj
theorem chunk_len {α β : Type} {K : Nat} (f : α → List β) (hf : ∀ x, (f x).length = K) : ∀ (l : List α), (l.flatMap f).length = l.length * K
  | [] => by simp
  | x :: l => by rw [List.flatMap_cons, List.length_append, hf, chunk_len f hf l, List.length_cons, Nat.succ_mul]; omega
/-- the cells of tasks, of ports, of a partition -/
def tcs (ts : List Tk) : List Value := ts.flatMap (fun t => t.row.map (Value.int .i64))
def ocs (os : List Po) : List Value := os.flatMap (fun t => t.row.map (Value.int .i64))
def pcs (q : Pt × Value) : List Value := [.int .i64 q.1.per, .int .i64 q.1.bud, q.2]
theorem tcs_get (ts : List Tk) {i j : Nat} (hi : i < ts.length) (hj : j < 8) : (tcs ts)[i * 8 + j]? = some (.int .i64 ((ts.getD i tk0).row.getD j 0)) := by
  unfold tcs
  rw [chunk_get (K := 8) _ (fun _ => rfl) tk0 ts i j hi hj, List.getElem?_map]
  match j, hj with
  | 0, _ => rfl
  | 1, _ => rfl
  | 2, _ => rfl
  | 3, _ => rfl
  | 4, _ => rfl
  | 5, _ => rfl
  | 6, _ => rfl
  | 7, _ => rfl
theorem ocs_get (ts : List Po) {i j : Nat} (hi : i < ts.length) (hj : j < 6) : (ocs ts)[i * 6 + j]? = some (.int .i64 ((ts.getD i po0).row.getD j 0)) := by
  unfold ocs
  rw [chunk_get (K := 6) _ (fun _ => rfl) po0 ts i j hi hj, List.getElem?_map]
  match j, hj with
  | 0, _ => rfl
  | 1, _ => rfl
  | 2, _ => rfl
  | 3, _ => rfl
  | 4, _ => rfl
  | 5, _ => rfl
theorem tcs_len (ts : List Tk) : (tcs ts).length = ts.length * 8 := chunk_len (K := 8) (fun t : Tk => t.row.map (Value.int .i64)) (fun _ => rfl) ts
theorem ocs_len (ts : List Po) : (ocs ts).length = ts.length * 6 := chunk_len (K := 6) (fun t : Po => t.row.map (Value.int .i64)) (fun _ => rfl) ts
theorem one_flat {α : Type} (l : List α) (r : α → List Int) : ∀ u ∈ l.flatMap (fun t => (r t).map (Value.int .i64)), u.oneCell' = true := by
  intro u hu
  obtain ⟨t, _, hu⟩ := List.mem_flatMap.1 hu
  obtain ⟨z, _, rfl⟩ := List.mem_map.1 hu
  rfl
/-- tasks, ports, partitions of the call's own -/
def TW (w : World) (B : Nat) (v : Value) (ts : List Tk) : Prop := w.ownsRow B 30 8 v ts.length (tcs ts)
def OW (w : World) (B : Nat) (v : Value) (os : List Po) : Prop := w.ownsRow B 32 6 v os.length (ocs os)
def PW (w : World) (B : Nat) (v : Value) (ps : List Pt) : Prop := ∃ l : List (Pt × Value), l.map (·.1) = ps ∧ w.ownsRow B 28 3 v l.length (l.flatMap pcs) ∧ ∀ q ∈ l, TW w B q.2 q.1.ts
theorem own_rows {w : World} {B K n : Nat} {e : TypeId} {v : Value} {xs : List Value} {z : Nat → List Int} (h : w.ownsRow B e K v n xs) (hz : ∀ i j, i < n → j < K → xs[i * K + j]? = some (.int .i64 ((z i).getD j 0))) : SS w B K v n z := by
  have hc := h
  rcases h.2 with ⟨rfl, rfl⟩ | ⟨g, cap, cur, rfl, hg, hh, hnc, hcm, _⟩
  · exact ⟨none, 0, rfl, Nat.le_refl _, Nat.zero_le _, fun _ => rfl, fun h => by cases h⟩
  · refine ⟨some ⟨g, 0, none⟩, cap, rfl, hnc, hcm, (fun h => by cases h), fun _ => ⟨g, 0, rfl, hg, fun i hi j hj => ?_⟩⟩
    have := World.ownsRow.cells hc (g := g) rfl (i * K + j) _ (hz i j hi hj)
    rw [Addr.add_lit, ← Nat.add_assoc] at this
    exact this
theorem TW.ts {w : World} {B : Nat} {v : Value} {ts : List Tk} (h : TW w B v ts) : TS w B v ts := own_rows h (fun i j hi hj => tcs_get ts hi hj)
theorem OW.os {w : World} {B : Nat} {v : Value} {ts : List Po} (h : OW w B v ts) : OS w B v ts := own_rows h (fun i j hi hj => ocs_get ts hi hj)
theorem PW.ps {w : World} {B : Nat} {v : Value} {ps : List Pt} (h : PW w B v ps) : PS w B v ps := by
  obtain ⟨l, rfl, ho, ht⟩ := h
  have hc := ho
  rcases ho.2 with ⟨rfl, h0⟩ | ⟨g, cap, cur, rfl, hg, hh, hnc, hcm, _⟩
  · have : l = [] := List.eq_nil_of_length_eq_zero h0
    subst this
    exact PS.nil _ _
  · refine ⟨some ⟨g, 0, none⟩, cap, by simp, by simpa using hnc, hcm, (fun h => by cases h), fun _ => ⟨g, 0, rfl, hg, fun i hi => ?_⟩⟩
    rw [List.length_map] at hi
    have q := fun j hj => chunk_get (K := 3) pcs (fun _ => rfl) (pt0, .bool false) l i j hi hj
    have e : (l.map (·.1)).getD i pt0 = (l.getD i (pt0, .bool false)).1 := by simp [List.getD, List.getElem?_eq_getElem hi]
    rw [e]
    have hm : l.getD i (pt0, .bool false) ∈ l := by
      have : l.getD i (pt0, .bool false) = l[i] := by simp [List.getD, List.getElem?_eq_getElem hi]
      rw [this]; exact List.getElem_mem hi
    have c := fun j u hu => World.ownsRow.cells hc (g := g) rfl (i * 3 + j) u hu
    have c0 := c 0 _ (q 0 (by decide))
    have c1 := c 1 _ (q 1 (by decide))
    have c2 := c 2 _ (q 2 (by decide))
    rw [Addr.add_lit] at c0 c1 c2
    exact ⟨c0, by rw [← Nat.add_assoc] at c1; exact c1, _, by rw [← Nat.add_assoc] at c2; exact c2, (ht _ hm).ts⟩
theorem PW.nil (w : World) (B : Nat) : PW w B (.slice none 0 0) [] := ⟨[], rfl, World.ownsRow_nil w B _ 3, fun q hq => by cases hq⟩
/-- two rows of unlike elements stand apart -/
theorem own_two {w : World} {B C e f s t n m : Nat} {u v : Value} {xs ys : List Value} (h : w.ownsRow B e s u n xs) (k : w.ownsRow C f t v m ys) (hne : e ≠ f) : u.ownBlock = none ∨ u.ownBlock ≠ v.ownBlock := by
  rcases h.2 with ⟨rfl, _⟩ | ⟨g, cap, cur, rfl, _, hg, _⟩
  · exact Or.inl rfl
  · right
    rcases k.2 with ⟨rfl, _⟩ | ⟨g', cap', cur', rfl, _, hg', _⟩
    · simp [Value.ownBlock]
    · simp only [Value.ownBlock, ne_eq, Option.some.injEq]
      intro e1
      subst e1
      rw [hg] at hg'
      injection hg' with h1
      injection h1 with _ h2 _
      exact hne h2
theorem PW.old {w w' : World} {B : Nat} {v : Value} {ps : List Pt} (h : PW w B v ps) (hg : w.grownBy w' none) : PW w' B v ps := by
  obtain ⟨l, h1, h2, h3⟩ := h
  exact ⟨l, h1, h2.kept hg (by cases v.ownBlock <;> simp), fun q hq => (h3 q hq).kept hg (by cases q.2.ownBlock <;> simp)⟩
theorem set_grown {w : World} {b i : Nat} {y : Value} : w.grownBy (w.setCell ⟨b, i, none⟩ y) (some b) := ⟨rfl, rfl, rfl, by simp [World.setCell], fun k hk hne => heap_set_other (fun e => hne (by rw [e]))⟩
theorem PW.set {w : World} {B b i : Nat} {v y : Value} {ps : List Pt} (h : PW w B v ps) (hb : b < B) : PW (w.setCell ⟨b, i, none⟩ y) B v ps := by
  obtain ⟨l, h1, h2, h3⟩ := h
  refine ⟨l, h1, h2.kept set_grown ?_, fun q hq => (h3 q hq).kept set_grown ?_⟩
  · cases hv : v.ownBlock with
    | none => exact Or.inl rfl
    | some k => exact Or.inr fun e => by have := (h2.lt k hv).1; have := Option.some.inj e; omega
  · cases hv : q.2.ownBlock with
    | none => exact Or.inl rfl
    | some k => exact Or.inr fun e => by have := ((h3 q hq).lt k hv).1; have := Option.some.inj e; omega
theorem grown_trans {a b c : World} {row : Option Nat} (h : a.grownBy b none) (k : b.grownBy c row) (hr : ∀ j, row = some j → a.heap.size ≤ j) : a.grownBy c none :=
  ⟨k.os.trans h.os, k.tape.trans h.tape, k.output.trans h.output, Nat.le_trans h.size k.size, fun j hj _ => (k.block j (Nat.lt_of_lt_of_le hj h.size) (fun e => by have := hr j e.symm; omega)).trans (h.block j hj (by simp))⟩
theorem Only.grown {S : Nat → Prop} {a b c : World} {row : Option Nat} (h : Only S a b) (hg : b.grownBy c row) (hr : ∀ k, row = some k → a.heap.size ≤ k) : Only S a c :=
  ⟨hg.os.trans h.os, hg.tape.trans h.tape, hg.output.trans h.output, Nat.le_trans h.size hg.size, fun k hk hS => (hg.block k (Nat.lt_of_lt_of_le hk h.size) (fun e => by have := hr k e.symm; omega)).trans (h.block k hk hS)⟩

/-- an append of tasks, of ports, to nothing -/
theorem app_rows {w : World} {B C K e t n : Nat} {x : Value} {z : Nat → List Int} {xs : List Value} {i0 : TypeInfo} {zv : Value} (hu : Try.prog.underlying t = some (.slice e)) (hi : Try.prog.info? e = some i0) (hz0 : i0.zero = some zv) (hz1 : i0.size = K) (hz2 : i0.bytes = K * 8) (hzc : zv.cells.size = K) (hK : 0 < K)
    (hx : SS w C K x n z) (hxs : xs.length = n * K) (hz : ∀ i j, i < n → j < K → xs[i * K + j]? = some (.int .i64 ((z i).getD j 0))) (h1 : ∀ u ∈ xs, u.oneCell' = true) (hB : B ≤ w.heap.size) (hn : n * (K * 8) ≤ 140737488351232) (ty : TypeId) :
    ∃ v' w', (Builtin.append_ #[t, t] ty #[.slice none 0 0, x]).run Try.prog w = .ok v' w' ∧ w'.ownsRow B e K v' n xs ∧ w.grownBy w' none := by
  obtain ⟨a, cap, rfl, hc1, hc2, hc3, hc4⟩ := hx
  rcases a with _ | ad
  · obtain rfl := hc3 rfl
    obtain rfl : n = 0 := by omega
    obtain rfl : xs = [] := List.eq_nil_of_length_eq_zero (by omega)
    exact ⟨_, w, run_append_owned_none w B t ty e i0 K hu hi _ _ _ (World.ownsRow_nil w B e K), World.ownsRow_nil w B e K, World.grownBy.refl w none⟩
  · have hle : n ≤ n * (K * 8) := Nat.le_mul_of_pos_right n (by omega)
    have h63 : 0 + n ≤ maxLen := by unfold maxLen; omega
    have hby : (0 + n) * (K * 8) ≤ 140737488355328 := by rw [Nat.zero_add]; omega
    obtain ⟨v', w', hrun, hown, hgr, _⟩ := run_append_own (P := Try.prog) w B t ty e i0 zv K (K * 8) hu hi hz0 hz1 hz2 hzc hK (.slice none 0 0) 0 [] (World.ownsRow_nil w B e K) ad n cap xs hxs (by
      intro j u hj
      have hjl : j < n * K := by have := (List.getElem?_eq_some_iff.1 hj).1; omega
      have hn0 : 0 < n := by rcases Nat.eq_zero_or_pos n with h | h; · subst h; simp at hjl
                             · exact h
      obtain ⟨b, off, he, _, hcell⟩ := hc4 hn0
      obtain rfl := Option.some.inj he
      have hdi : j / K < n := Nat.div_lt_of_lt_mul (by rw [Nat.mul_comm]; exact hjl)
      have hmj : j % K < K := Nat.mod_lt _ hK
      have hjj : j / K * K + j % K = j := by rw [Nat.mul_comm]; exact Nat.div_add_mod j K
      have hcc := hcell (j / K) hdi (j % K) hmj
      have hzz := hz (j / K) (j % K) hdi hmj
      rw [hjj] at hzz
      rw [Addr.add_lit, show off + j = off + j / K * K + j % K by rw [Nat.add_assoc, hjj], hcc, ← hj, hzz]) h1 h63 hby hB
    exact ⟨v', w', hrun, by simpa using hown, by simpa [Value.ownBlock] using hgr⟩
theorem app_tasks {w : World} {B C : Nat} {x : Value} {ts : List Tk} (hx : TS w C x ts) (hB : B ≤ w.heap.size) (hn : ts.length * 64 ≤ 140737488351232) (ty : TypeId) :
    ∃ v' w', (Builtin.append_ #[26, 26] ty #[.slice none 0 0, x]).run Try.prog w = .ok v' w' ∧ TW w' B v' ts ∧ w.grownBy w' none := by
  obtain ⟨i0, hi, hz0, hz1, hz2⟩ := info_parts infoTk
  exact app_rows (K := 8) Try.underlying26 hi hz0 hz1 hz2 rfl (by decide) hx (tcs_len ts) (fun i j h1 h2 => tcs_get ts h1 h2) (one_flat ts Tk.row) hB hn ty
theorem app_ports {w : World} {B C : Nat} {x : Value} {os : List Po} (hx : OS w C x os) (hB : B ≤ w.heap.size) (hn : os.length * 48 ≤ 140737488351232) (ty : TypeId) :
    ∃ v' w', (Builtin.append_ #[23, 23] ty #[.slice none 0 0, x]).run Try.prog w = .ok v' w' ∧ OW w' B v' os ∧ w.grownBy w' none := by
  obtain ⟨i0, hi, hz0, hz1, hz2⟩ := info_parts infoPo
  exact app_rows (K := 6) Try.underlying23 hi hz0 hz1 hz2 rfl (by decide) hx (ocs_len os) (fun i j h1 h2 => ocs_get os h1 h2) (one_flat os Po.row) hB hn ty
end Go.Proofs.Ythbhkcofhhkcoaa
