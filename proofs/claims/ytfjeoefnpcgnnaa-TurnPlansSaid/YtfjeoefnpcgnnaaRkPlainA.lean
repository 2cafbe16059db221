/- Plain: heaps of entries (an id and a key) as functions on numbers, what a swap, a rise and a sink do to them, and how they stand for a map from ids to keys. Nothing of the program is imported. -/
namespace Go.Proofs.Ytfjeoefnpcgnnaa.Rq.Rk
set_option linter.unusedVariables false
set_option maxRecDepth 100000

/-- an id and its key -/
abbrev En := Int × Int
/-- a comes ahead of b -/
def lt (a b : En) : Prop := a.2 < b.2 ∨ (a.2 = b.2 ∧ a.1 < b.1)
instance (a b : En) : Decidable (lt a b) := by unfold lt; exact inferInstance
def le (a b : En) : Prop := ¬ lt b a
theorem le_trans {a b c : En} (h : le a b) (k : le b c) : le a c := by unfold le lt at *; omega
theorem le_of_lt {a b : En} (h : lt a b) : le a b := by unfold le lt at *; omega
theorem lt_irrefl (a : En) : ¬ lt a a := by unfold lt; omega
theorem lt_trans {a b c : En} (h : lt a b) (k : lt b c) : lt a c := by unfold lt at *; omega
theorem le_refl (a : En) : le a a := lt_irrefl a
theorem lt_of_le_of_lt {a b c : En} (h : le a b) (k : lt b c) : lt a c := by unfold le lt at *; omega
theorem lt_of_lt_of_le {a b c : En} (h : lt a b) (k : le b c) : lt a c := by unfold le lt at *; omega
theorem le_antisymm {a b : En} (h : le a b) (k : le b a) : a = b := by
  obtain ⟨a1, a2⟩ := a; obtain ⟨b1, b2⟩ := b
  unfold le lt at *; simp only at *; simp only [Prod.mk.injEq]; omega
theorem lt_of_le_ne {a b : En} (h : le a b) (k : a ≠ b) : lt a b := by
  by_cases hl : lt a b
  · exact hl
  · exact (k (le_antisymm h hl)).elim

def sw (f : Nat → En) (a b : Nat) : Nat → En := fun i => if i = a then f b else if i = b then f a else f i
def up (f : Nat → En) (a : Nat) (x : En) : Nat → En := fun i => if i = a then x else f i
theorem sw_left (f : Nat → En) (a b : Nat) : sw f a b a = f b := by simp [sw]
theorem sw_right (f : Nat → En) (a b : Nat) : sw f a b b = f a := by by_cases h : b = a <;> simp [sw, h]
theorem sw_other {f : Nat → En} {a b i : Nat} (h : i ≠ a) (k : i ≠ b) : sw f a b i = f i := by simp [sw, h, k]
theorem up_same (f : Nat → En) (a : Nat) (x : En) : up f a x a = x := by simp [up]
theorem up_other {f : Nat → En} {a i : Nat} {x : En} (h : i ≠ a) : up f a x i = f i := by simp [up, h]
theorem sw_up (f : Nat → En) (a b : Nat) : up (up f a (f b)) b (f a) = sw f a b := by
  funext i; unfold up sw
  by_cases h : i = b
  · subst h; by_cases k : i = a
    · subst k; simp
    · simp [k]
  · simp [h]

/-- a heap but at p -/
def HX (f : Nat → En) (n p : Nat) : Prop :=
  (∀ i, 0 < i → i < n → i ≠ p → (i - 1) / 2 ≠ p → le (f ((i - 1) / 2)) (f i)) ∧ (∀ c, 0 < c → c < n → (c - 1) / 2 = p → 0 < p → le (f ((p - 1) / 2)) (f c))
def Up (f : Nat → En) (n p : Nat) : Prop := 0 < p → le (f ((p - 1) / 2)) (f p)
def Dn (f : Nat → En) (n p : Nat) : Prop := ∀ c, 0 < c → c < n → (c - 1) / 2 = p → le (f p) (f c)
def Heap (f : Nat → En) (n : Nat) : Prop := ∀ i, 0 < i → i < n → le (f ((i - 1) / 2)) (f i)

theorem heap_of {f : Nat → En} {n p : Nat} (h : HX f n p) (u : Up f n p) (d : Dn f n p) : Heap f n := by
  intro i hi hn
  by_cases h1 : i = p
  · subst h1; exact u hi
  · by_cases h2 : (i - 1) / 2 = p
    · have := d i hi hn h2; rw [h2]; exact this
    · exact h.1 i hi hn h1 h2
theorem heap_hx {f : Nat → En} {n p : Nat} (h : Heap f n) (hp : p < n) : HX f n p :=
  ⟨fun i hi hn _ _ => h i hi hn, fun c hc hn e hp0 => by
    have h1 := h c hc hn
    rw [e] at h1
    exact le_trans (h p hp0 hp) h1⟩
theorem heap_up {f : Nat → En} {n p : Nat} (h : Heap f n) (hp : p < n) : Up f n p := fun h0 => h p h0 hp
theorem heap_dn {f : Nat → En} {n p : Nat} (h : Heap f n) : Dn f n p := fun c hc hn e => by have := h c hc hn; rwa [e] at this

theorem rise_step {f : Nat → En} {n p : Nat} (h : HX f n p) (h0 : 0 < p) (hp : p < n) (hl : lt (f p) (f ((p - 1) / 2))) :
    HX (sw f p ((p - 1) / 2)) n ((p - 1) / 2) ∧ Dn (sw f p ((p - 1) / 2)) n ((p - 1) / 2) := by
  obtain ⟨q, hq⟩ : ∃ q, q = (p - 1) / 2 := ⟨_, rfl⟩
  rw [← hq] at hl ⊢
  have hqp : q < p := by omega
  refine ⟨⟨fun i hi hn h1 h2 => ?_, fun c hc hn he hq0 => ?_⟩, fun c hc hn he => ?_⟩
  · have hip : i ≠ p := by intro e; subst e; exact h2 hq.symm
    rw [sw_other (i := i) hip h1]
    by_cases h3 : (i - 1) / 2 = p
    · rw [h3, sw_left]
      have := h.2 i hi hn h3 h0
      rwa [← hq] at this
    · rw [sw_other h3 h2]
      exact h.1 i hi hn hip h3
  · have hqq : le (f ((q - 1) / 2)) (f q) := h.1 q hq0 (by omega) (by omega) (by omega)
    rw [sw_other (i := (q - 1) / 2) (by omega) (by omega)]
    by_cases h3 : c = p
    · rw [h3, sw_left]; exact hqq
    · rw [sw_other h3 (by omega)]
      have := h.1 c hc hn h3 (by omega)
      rw [he] at this
      exact le_trans hqq this
  · rw [sw_right]
    by_cases h3 : c = p
    · rw [h3, sw_left]; exact le_of_lt hl
    · rw [sw_other h3 (by omega)]
      have := h.1 c hc hn h3 (by omega)
      rw [he] at this
      exact le_trans (le_of_lt hl) this

theorem sink_step {f : Nat → En} {n p q : Nat} (h : HX f n p) (u : Up f n p) (hq0 : 0 < q) (hqn : q < n) (hqp : (q - 1) / 2 = p) (hl : lt (f q) (f p))
    (hm : ∀ c, 0 < c → c < n → (c - 1) / 2 = p → le (f q) (f c)) : HX (sw f p q) n q ∧ Up (sw f p q) n q := by
  have hpq : p < q := by omega
  refine ⟨⟨fun i hi hn h1 h2 => ?_, fun c hc hn he _ => ?_⟩, fun _ => ?_⟩
  · by_cases h3 : i = p
    · subst h3
      rw [sw_left, sw_other (i := (i - 1) / 2) (by omega) (by omega)]
      exact h.2 q hq0 hqn hqp hi
    · rw [sw_other h3 h1]
      by_cases h4 : (i - 1) / 2 = p
      · rw [h4, sw_left]; exact hm i hi hn h4
      · rw [sw_other h4 h2]; exact h.1 i hi hn h3 h4
  · rw [hqp, sw_left, sw_other (i := c) (by omega) (by omega)]
    have := h.1 c hc hn (by omega) (by omega)
    rwa [he] at this
  · rw [hqp, sw_left, sw_right]; exact le_of_lt hl

/-- the entry at p is taken by the last one, and the last place is cut -/
theorem cut_hx {f : Nat → En} {n p : Nat} (h : Heap f (n + 1)) (hp : p < n) : HX (sw f p n) n p :=
  ⟨fun i hi hn h1 h2 => by rw [sw_other h1 (by omega), sw_other h2 (by omega)]; exact h i hi (by omega), fun c hc hn he h0 => by
    rw [sw_other (i := (p - 1) / 2) (by omega) (by omega), sw_other (i := c) (by omega) (by omega)]
    have h1 := h c hc (by omega)
    rw [he] at h1
    exact le_trans (h p h0 (by omega)) h1⟩
theorem cut_last {f : Nat → En} {n : Nat} (h : Heap f (n + 1)) : Heap (sw f n n) n := fun i hi hn => by
  rw [sw_other (i := (i - 1) / 2) (by omega) (by omega), sw_other (i := i) (by omega) (by omega)]; exact h i hi (by omega)
/-- a key is lowered -/
theorem low_hx {f : Nat → En} {n p : Nat} {x : En} (h : Heap f n) (hp : p < n) (hl : le x (f p)) : HX (up f p x) n p ∧ Dn (up f p x) n p :=
  ⟨⟨fun i hi hn h1 h2 => by rw [up_other h1, up_other h2]; exact h i hi hn, fun c hc hn he h0 => by
    rw [up_other (i := (p - 1) / 2) (by omega), up_other (i := c) (by omega)]
    have h1 := h c hc hn
    rw [he] at h1
    exact le_trans (h p h0 hp) h1⟩, fun c hc hn he => by
    rw [up_same, up_other (i := c) (by omega)]
    have h1 := h c hc hn
    rw [he] at h1
    exact le_trans hl h1⟩
/-- an entry is put in at the end -/
theorem put_hx {f : Nat → En} {n : Nat} {x : En} (h : Heap f n) : HX (up f n x) (n + 1) n ∧ Dn (up f n x) (n + 1) n :=
  ⟨⟨fun i hi hn h1 h2 => by rw [up_other h1, up_other h2]; exact h i hi (by omega), fun c hc hn he h0 => by omega⟩, fun c hc hn he => by omega⟩

/-- the first one comes ahead of all -/
theorem heap_first {f : Nat → En} {n : Nat} (h : Heap f n) : ∀ i, i < n → le (f 0) (f i) := by
  intro i
  induction i using Nat.strongRecOn with
  | _ i ih =>
    intro hn
    by_cases h0 : i = 0
    · subst h0; exact le_refl _
    · exact le_trans (ih ((i - 1) / 2) (by omega) (by omega)) (h i (by omega) hn)

/-! ## Maps from ids to keys -/
abbrev Mp := Int → Option Int
def upd (m : Mp) (id : Int) (v : Option Int) : Mp := fun j => if j = id then v else m j
theorem upd_same (m : Mp) (id : Int) (v : Option Int) : upd m id v id = v := by simp [upd]
theorem upd_other {m : Mp} {id j : Int} {v : Option Int} (h : j ≠ id) : upd m id v j = m j := by simp [upd, h]
def updp (pl : Int → Int) (id v : Int) : Int → Int := fun j => if j = id then v else pl j
theorem updp_same (m : Int → Int) (id v : Int) : updp m id v id = v := by simp [updp]
theorem updp_other {m : Int → Int} {id j v : Int} (h : j ≠ id) : updp m id v j = m j := by simp [updp, h]

/-- the first n entries of f, whose places pl tells, are the map m -/
structure Rep (f : Nat → En) (n : Nat) (pl : Int → Int) (m : Mp) : Prop where
  ent : ∀ i, i < n → 0 ≤ (f i).1 ∧ (f i).1 < 64 ∧ m (f i).1 = some (f i).2 ∧ pl (f i).1 = i + 1
  non : ∀ id, 0 ≤ id → id < 64 → m id = none → pl id = 0
  has : ∀ id k, m id = some k → 0 ≤ id ∧ id < 64 ∧ ∃ i, i < n ∧ f i = (id, k)

theorem Rep.zero : Rep (fun _ => (0, 0)) 0 (fun _ => 0) (fun _ => none) := ⟨fun i h => by omega, fun _ _ _ _ => rfl, fun id k h => by cases h⟩
theorem Rep.inj {f : Nat → En} {n : Nat} {pl : Int → Int} {m : Mp} (h : Rep f n pl m) {i j : Nat} (hi : i < n) (hj : j < n) (e : (f i).1 = (f j).1) : i = j := by
  have a := (h.ent i hi).2.2.2
  have b := (h.ent j hj).2.2.2
  rw [e, b] at a
  omega
/-- where an id is -/
theorem Rep.place {f : Nat → En} {n : Nat} {pl : Int → Int} {m : Mp} (h : Rep f n pl m) {id k : Int} (hm : m id = some k) : ∃ p : Nat, p < n ∧ f p = (id, k) ∧ pl id = p + 1 := by
  obtain ⟨_, _, p, hp, hf⟩ := h.has id k hm
  refine ⟨p, hp, hf, ?_⟩
  have := (h.ent p hp).2.2.2
  rwa [hf] at this
theorem Rep.swap {f : Nat → En} {n : Nat} {pl : Int → Int} {m : Mp} (h : Rep f n pl m) {a b : Nat} (ha : a < n) (hb : b < n) :
    Rep (sw f a b) n (updp (updp pl (f b).1 (a + 1)) (f a).1 (b + 1)) m := by
  refine ⟨fun i hi => ?_, fun id h0 h1 hm => ?_, fun id k hm => ?_⟩
  · by_cases e1 : i = a
    · subst e1
      rw [sw_left]
      obtain ⟨x1, x2, x3, x4⟩ := h.ent b hb
      refine ⟨x1, x2, x3, ?_⟩
      by_cases e : (f b).1 = (f i).1
      · rw [e, updp_same]; have := h.inj hb ha e; omega
      · rw [updp_other e, updp_same]
    · by_cases e2 : i = b
      · subst e2
        rw [sw_right]
        obtain ⟨x1, x2, x3, x4⟩ := h.ent a ha
        exact ⟨x1, x2, x3, updp_same _ _ _⟩
      · rw [sw_other e1 e2]
        obtain ⟨x1, x2, x3, x4⟩ := h.ent i hi
        refine ⟨x1, x2, x3, ?_⟩
        rw [updp_other (fun e => e1 (h.inj hi ha e)), updp_other (fun e => e2 (h.inj hi hb e))]
        exact x4
  · have x := (h.ent a ha).2.2.1
    have y := (h.ent b hb).2.2.1
    rw [updp_other (fun e => by rw [e, x] at hm; cases hm), updp_other (fun e => by rw [e, y] at hm; cases hm)]
    exact h.non id h0 h1 hm
  · obtain ⟨h0, h1, i, hi, hf⟩ := h.has id k hm
    refine ⟨h0, h1, ?_⟩
    by_cases e1 : i = a
    · exact ⟨b, hb, by rw [sw_right, ← e1]; exact hf⟩
    · by_cases e2 : i = b
      · exact ⟨a, ha, by rw [sw_left, ← e2]; exact hf⟩
      · exact ⟨i, hi, by rw [sw_other e1 e2]; exact hf⟩
theorem Rep.put {f : Nat → En} {n : Nat} {pl : Int → Int} {m : Mp} (h : Rep f n pl m) {id k : Int} (h0 : 0 ≤ id) (h1 : id < 64) (hm : m id = none) :
    Rep (up f n (id, k)) (n + 1) (updp pl id (n + 1)) (upd m id (some k)) := by
  refine ⟨fun i hi => ?_, fun j j0 j1 hj => ?_, fun j q hj => ?_⟩
  · by_cases e : i = n
    · subst e; rw [up_same]; exact ⟨h0, h1, upd_same _ _ _, updp_same _ _ _⟩
    · rw [up_other e]
      obtain ⟨x1, x2, x3, x4⟩ := h.ent i (by omega)
      have hne : (f i).1 ≠ id := fun e => by rw [e, hm] at x3; cases x3
      exact ⟨x1, x2, by rw [upd_other hne]; exact x3, by rw [updp_other hne]; exact x4⟩
  · have hne : j ≠ id := fun e => by rw [e, upd_same] at hj; cases hj
    rw [upd_other hne] at hj
    rw [updp_other hne]
    exact h.non j j0 j1 hj
  · by_cases e : j = id
    · subst e
      rw [upd_same] at hj
      obtain rfl : k = q := by simpa using hj
      exact ⟨h0, h1, n, by omega, up_same _ _ _⟩
    · rw [upd_other e] at hj
      obtain ⟨x0, x1, i, hi, hf⟩ := h.has j q hj
      exact ⟨x0, x1, i, by omega, by rw [up_other (by omega)]; exact hf⟩
theorem Rep.low {f : Nat → En} {n : Nat} {pl : Int → Int} {m : Mp} (h : Rep f n pl m) {id k k' : Int} {p : Nat} (hp : p < n) (hf : f p = (id, k)) :
    Rep (up f p (id, k')) n pl (upd m id (some k')) := by
  have hid : (f p).1 = id := by rw [hf]
  refine ⟨fun i hi => ?_, fun j j0 j1 hj => ?_, fun j q hj => ?_⟩
  · obtain ⟨x1, x2, x3, x4⟩ := h.ent i hi
    by_cases e : i = p
    · subst e; rw [up_same]; rw [hid] at x1 x2 x4; exact ⟨x1, x2, upd_same _ _ _, x4⟩
    · rw [up_other e]
      have hne : (f i).1 ≠ id := fun e' => e (h.inj hi hp (by rw [e', hid]))
      exact ⟨x1, x2, by rw [upd_other hne]; exact x3, x4⟩
  · have hne : j ≠ id := fun e => by rw [e, upd_same] at hj; cases hj
    rw [upd_other hne] at hj
    exact h.non j j0 j1 hj
  · by_cases e : j = id
    · subst e
      rw [upd_same] at hj
      obtain rfl : k' = q := by simpa using hj
      obtain ⟨x1, x2, _, _⟩ := h.ent p hp
      rw [hid] at x1 x2
      exact ⟨x1, x2, p, hp, up_same _ _ _⟩
    · rw [upd_other e] at hj
      obtain ⟨x0, x1, i, hi, hg⟩ := h.has j q hj
      refine ⟨x0, x1, i, hi, ?_⟩
      rw [up_other (fun e' => by subst e'; rw [hf] at hg; simp only [Prod.mk.injEq] at hg; exact e hg.1.symm)]
      exact hg
/-- the last entry is cut -/
theorem Rep.cut {f : Nat → En} {n : Nat} {pl : Int → Int} {m : Mp} (h : Rep f (n + 1) pl m) : Rep f n (updp pl (f n).1 0) (upd m (f n).1 none) := by
  refine ⟨fun i hi => ?_, fun j j0 j1 hj => ?_, fun j q hj => ?_⟩
  · obtain ⟨x1, x2, x3, x4⟩ := h.ent i (by omega)
    have hne : (f i).1 ≠ (f n).1 := fun e => by have := h.inj (i := i) (j := n) (by omega) (by omega) e; omega
    exact ⟨x1, x2, by rw [upd_other hne]; exact x3, by rw [updp_other hne]; exact x4⟩
  · by_cases e : j = (f n).1
    · rw [e, updp_same]
    · rw [upd_other e] at hj
      rw [updp_other e]
      exact h.non j j0 j1 hj
  · have hne : j ≠ (f n).1 := fun e => by rw [e, upd_same] at hj; cases hj
    rw [upd_other hne] at hj
    obtain ⟨x0, x1, i, hi, hg⟩ := h.has j q hj
    refine ⟨x0, x1, i, ?_, hg⟩
    have : i ≠ n := fun e => by subst e; rw [hg] at hne; exact hne rfl
    omega
/-- the first one of a heap: it is there, and ahead of all others -/
theorem Rep.first {f : Nat → En} {n : Nat} {pl : Int → Int} {m : Mp} (h : Rep f n pl m) (hh : Heap f n) (hn : 0 < n) :
    m (f 0).1 = some (f 0).2 ∧ ∀ id k, m id = some k → le (f 0) (id, k) :=
  ⟨(h.ent 0 hn).2.2.1, fun id k hm => by
    obtain ⟨_, _, i, hi, hf⟩ := h.has id k hm
    have := heap_first hh i hi
    rwa [hf] at this⟩
theorem Rep.none {f : Nat → En} {pl : Int → Int} {m : Mp} (h : Rep f 0 pl m) (id : Int) : m id = Option.none := by
  cases hm : m id with
  | none => rfl
  | some k => obtain ⟨_, _, i, hi, _⟩ := h.has id k hm; omega

/-! ## Ids in order -/
/-- l is what is in m, in order -/
def Ord (m : Mp) (l : List En) : Prop := l.Pairwise lt ∧ ∀ id k, (id, k) ∈ l ↔ m id = some k
theorem ord_unique_aux : ∀ {l k : List En}, l.Pairwise lt → k.Pairwise lt → (∀ x, x ∈ l ↔ x ∈ k) → l = k
  | [], [], _, _, _ => rfl
  | [], y :: k, _, _, h => by have := (h y).2 (by simp); cases this
  | x :: l, [], _, _, h => by have := (h x).1 (by simp); cases this
  | x :: l, y :: k, hl, hk, h => by
    have hx := List.pairwise_cons.1 hl
    have hy := List.pairwise_cons.1 hk
    have exy : x = y := by
      have h1 := (h x).1 (by simp)
      have h2 := (h y).2 (by simp)
      rcases List.mem_cons.1 h1 with e | m1
      · exact e
      · rcases List.mem_cons.1 h2 with e | m2
        · exact e.symm
        · exact (lt_irrefl _ (lt_trans (hx.1 y m2) (hy.1 x m1))).elim
    subst exy
    congr 1
    refine ord_unique_aux hx.2 hy.2 fun z => ⟨fun hz => ?_, fun hz => ?_⟩
    · rcases List.mem_cons.1 ((h z).1 (List.mem_cons_of_mem _ hz)) with e | m1
      · subst e; exact (lt_irrefl _ (hx.1 z hz)).elim
      · exact m1
    · rcases List.mem_cons.1 ((h z).2 (List.mem_cons_of_mem _ hz)) with e | m1
      · subst e; exact (lt_irrefl _ (hy.1 z hz)).elim
      · exact m1
theorem Ord.unique {m : Mp} {l k : List En} (h : Ord m l) (g : Ord m k) : l = k :=
  ord_unique_aux h.1 g.1 fun ⟨id, key⟩ => (h.2 id key).trans (g.2 id key).symm

/-- x among the others -/
def ins (x : En) : List En → List En
  | [] => [x]
  | y :: l => if lt y x then y :: ins x l else x :: y :: l
theorem mem_ins (x z : En) (l : List En) : z ∈ ins x l ↔ z = x ∨ z ∈ l := by
  induction l with
  | nil => simp [ins]
  | cons y l ih =>
    unfold ins
    split
    · simp only [List.mem_cons, ih]; constructor
      · rintro (h | h | h)
        · exact Or.inr (Or.inl h)
        · exact Or.inl h
        · exact Or.inr (Or.inr h)
      · rintro (h | h | h)
        · exact Or.inr (Or.inl h)
        · exact Or.inl h
        · exact Or.inr (Or.inr h)
    · simp
theorem len_ins (x : En) (l : List En) : (ins x l).length = l.length + 1 := by
  induction l with
  | nil => rfl
  | cons y l ih => unfold ins; split <;> simp [ih]
theorem pairwise_ins {x : En} {l : List En} (h : l.Pairwise lt) (hx : x ∉ l) : (ins x l).Pairwise lt := by
  induction l with
  | nil => simp [ins]
  | cons y l ih =>
    have hy := List.pairwise_cons.1 h
    unfold ins
    split
    · rename_i hl
      refine List.pairwise_cons.2 ⟨fun z hz => ?_, ih hy.2 (fun hm => hx (List.mem_cons_of_mem _ hm))⟩
      rcases (mem_ins x z l).1 hz with e | hm
      · rw [e]; exact hl
      · exact hy.1 z hm
    · rename_i hl
      have hxy : lt x y := lt_of_le_ne hl (fun e => hx (by rw [e]; simp))
      refine List.pairwise_cons.2 ⟨fun z hz => ?_, h⟩
      rcases List.mem_cons.1 hz with e | hm
      · rw [e]; exact hxy
      · exact lt_trans hxy (hy.1 z hm)
theorem Ord.put {m : Mp} {l : List En} {id k : Int} (h : Ord m l) (hm : m id = none) : Ord (upd m id (some k)) (ins (id, k) l) := by
  refine ⟨pairwise_ins h.1 (fun hx => by have := (h.2 id k).1 hx; rw [hm] at this; cases this), fun j q => ?_⟩
  rw [mem_ins]
  by_cases e : j = id
  · subst e
    rw [upd_same]
    constructor
    · rintro (h1 | h1)
      · simp only [Prod.mk.injEq] at h1; rw [h1.2]
      · have := (h.2 j q).1 h1; rw [hm] at this; cases this
    · intro h1; left; simp at h1; rw [h1]
  · rw [upd_other e, ← h.2 j q]
    constructor
    · rintro (h1 | h1)
      · simp only [Prod.mk.injEq] at h1; exact (e h1.1).elim
      · exact h1
    · exact Or.inr
def del (id : Int) (l : List En) : List En := l.filter fun x => x.1 != id
theorem Ord.del {m : Mp} {l : List En} (h : Ord m l) (id : Int) : Ord (upd m id none) (del id l) := by
  refine ⟨h.1.filter _, fun j q => ?_⟩
  unfold Rk.del
  simp only [List.mem_filter, bne_iff_ne, ne_eq]
  by_cases e : j = id
  · subst e; simp [upd_same]
  · rw [upd_other e, h.2]; simp [e]
theorem Ord.head {m : Mp} {x : En} {l : List En} (h : Ord m (x :: l)) : m x.1 = some x.2 ∧ ∀ id k, m id = some k → le x (id, k) := by
  refine ⟨(h.2 x.1 x.2).1 (by simp), fun id k hm => ?_⟩
  rcases List.mem_cons.1 ((h.2 id k).2 hm) with e | hm'
  · rw [e]; exact le_refl _
  · exact le_of_lt ((List.pairwise_cons.1 h.1).1 _ hm')
theorem Ord.inj {m : Mp} {l : List En} (h : Ord m l) {i j : Nat} (hi : i < l.length) (hj : j < l.length) (e : (l[i]).1 = (l[j]).1) : i = j := by
  have a := (h.2 (l[i]).1 (l[i]).2).1 (List.getElem_mem _)
  have b := (h.2 (l[j]).1 (l[j]).2).1 (List.getElem_mem _)
  have e2 : (l[i]).2 = (l[j]).2 := by rw [e, b] at a; simpa using a.symm
  have e3 : l[i] = l[j] := Prod.ext e e2
  by_cases h1 : i < j
  · exact (lt_irrefl _ (e3 ▸ (List.pairwise_iff_getElem.1 h.1 i j hi hj h1))).elim
  · by_cases h2 : j < i
    · exact (lt_irrefl _ (e3 ▸ (List.pairwise_iff_getElem.1 h.1 j i hj hi h2))).elim
    · omega
theorem len_del_none {m : Mp} {l : List En} (h : Ord m l) {id : Int} (hm : m id = none) : del id l = l := by
  unfold Rk.del
  rw [List.filter_eq_self]
  intro x hx
  simp only [bne_iff_ne, ne_eq]
  intro e
  have := (h.2 x.1 x.2).1 hx
  rw [e, hm] at this; cases this
theorem len_del_some {l : List En} (hp : l.Pairwise fun a b => a.1 ≠ b.1) {id k : Int} (hm : (id, k) ∈ l) : (del id l).length + 1 = l.length := by
  induction l with
  | nil => cases hm
  | cons y l ih =>
    have hy := List.pairwise_cons.1 hp
    by_cases e : y.1 = id
    · have hd : del id l = l := by
        unfold del; rw [List.filter_eq_self]; intro x hx
        have h1 := hy.1 x hx
        simp only [bne_iff_ne, ne_eq]
        intro e2
        exact h1 (by rw [e, e2])
      have : del id (y :: l) = del id l := by unfold del; simp [e]
      rw [this, hd]; simp
    · have hm' : (id, k) ∈ l := by
        rcases List.mem_cons.1 hm with e' | h'
        · exact (e (by rw [← e'])).elim
        · exact h'
      have : del id (y :: l) = y :: del id l := by unfold del; simp [e]
      rw [this]
      have := ih hy.2 hm'
      simp only [List.length_cons]; omega
theorem Ord.apart {m : Mp} {l : List En} (h : Ord m l) : l.Pairwise fun a b => a.1 ≠ b.1 := by
  rw [List.pairwise_iff_getElem]
  intro i j hi hj hij e
  have := h.inj hi hj e
  omega
theorem Ord.del_len {m : Mp} {l : List En} (h : Ord m l) {id k : Int} (hm : m id = some k) : (Rk.del id l).length + 1 = l.length := len_del_some h.apart ((h.2 id k).2 hm)
/-- the least one of two descriptions of one map is the same -/
theorem first_same {m : Mp} {x y : En} (hx : m x.1 = some x.2 ∧ ∀ id k, m id = some k → le x (id, k)) (hy : m y.1 = some y.2 ∧ ∀ id k, m id = some k → le y (id, k)) : x = y :=
  le_antisymm (hx.2 y.1 y.2 hy.1) (hy.2 x.1 x.2 hx.1)
theorem Ord.nil : Ord (fun _ => none) [] := ⟨List.Pairwise.nil, fun id k => by simp⟩

end Go.Proofs.Ytfjeoefnpcgnnaa.Rq.Rk
