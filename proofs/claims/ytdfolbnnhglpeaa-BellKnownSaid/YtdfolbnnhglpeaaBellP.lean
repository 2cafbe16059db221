/- Plain: bells as a list of numbers with their ticks, in order. -/
import Derived.Test.YtdfolbnnhglpeaaPlainA
namespace Go.Proofs.Ytdfolbnnhglpeaa.Rk
set_option linter.unusedVariables false

theorem upd_upd' (m : Mp) (id : Int) (x y : Option Int) : upd (upd m id x) id y = upd m id y := by funext j; unfold upd; split <;> rfl
/-- the map of a list -/
def mp (P : List En) : Mp := fun id => (P.find? (fun x => x.1 == id)).map (·.2)
theorem mp_nil : mp [] = fun _ => none := rfl
theorem Ord.mp {m : Mp} {P : List En} (h : Ord m P) : m = mp P := by
  funext id
  unfold Rk.mp
  cases hf : P.find? (fun x => x.1 == id) with
  | none =>
    cases hm : m id with
    | none => rfl
    | some k =>
      have h1 := (h.2 id k).2 hm
      have h2 := List.find?_eq_none.1 hf _ h1
      simp at h2
  | some x =>
    have h1 := List.mem_of_find?_eq_some hf
    have h2 := List.find?_some hf
    simp only [beq_iff_eq] at h2
    have h3 := (h.2 x.1 x.2).1 h1
    rw [← h2, h3]
    rfl
/-- bells: in order, each of one number, with ticks that may be -/
structure Wf (P : List En) : Prop where
  ord : Ord (mp P) P
  dom : ∀ x, x ∈ P → 0 ≤ x.1 ∧ x.1 < 64
  key : ∀ x, x ∈ P → 0 ≤ x.2 ∧ x.2 ≤ 1099511627776
theorem Wf.nil : Wf [] := ⟨Ord.nil, fun x h => (nomatch h), fun x h => (nomatch h)⟩
theorem Wf.of {m : Mp} {P : List En} (h : Ord m P) (hd : ∀ x, x ∈ P → 0 ≤ x.1 ∧ x.1 < 64) (hk : ∀ x, x ∈ P → 0 ≤ x.2 ∧ x.2 ≤ 1099511627776) : Wf P := ⟨h.mp ▸ h, hd, hk⟩
theorem Wf.look {P : List En} (h : Wf P) {id k : Int} : mp P id = some k ↔ (id, k) ∈ P := (h.ord.2 id k).symm
theorem mem_del {id : Int} {x : En} {P : List En} : x ∈ del id P ↔ x ∈ P ∧ x.1 ≠ id := by unfold del; simp
theorem Wf.del {P : List En} (h : Wf P) (id : Int) : Wf (del id P) :=
  Wf.of (h.ord.del id) (fun x hx => h.dom x (mem_del.1 hx).1) (fun x hx => h.key x (mem_del.1 hx).1)
theorem Wf.mp_del {P : List En} (h : Wf P) (id : Int) : mp (Rk.del id P) = upd (mp P) id none := (h.ord.del id).mp.symm
/-- a bell is armed -/
def armed (id k : Int) (P : List En) : List En := ins (id, k) (del id P)
theorem Wf.ord_armed {P : List En} (h : Wf P) (id k : Int) : Ord (upd (upd (mp P) id none) id (some k)) (armed id k P) := (h.ord.del id).put (upd_same _ _ _)
theorem Wf.mp_armed {P : List En} (h : Wf P) (id k : Int) : mp (armed id k P) = upd (mp P) id (some k) := by
  rw [← (h.ord_armed id k).mp, upd_upd']
theorem Wf.armed {P : List En} (h : Wf P) {id k : Int} (h0 : 0 ≤ id ∧ id < 64) (hk : 0 ≤ k ∧ k ≤ 1099511627776) : Wf (armed id k P) :=
  Wf.of (h.ord_armed id k)
    (fun x hx => by
      rcases (mem_ins _ _ _).1 hx with e | hx
      · rw [e]; exact h0
      · exact h.dom x (mem_del.1 hx).1)
    (fun x hx => by
      rcases (mem_ins _ _ _).1 hx with e | hx
      · rw [e]; exact hk
      · exact h.key x (mem_del.1 hx).1)
theorem Wf.tail {x : En} {P : List En} (h : Wf (x :: P)) : Wf P ∧ mp P = upd (mp (x :: P)) x.1 none ∧ Rk.del x.1 (x :: P) = P := by
  have hd : Rk.del x.1 (x :: P) = P := by
    have h1 := h.ord.apart
    have h2 := (List.pairwise_cons.1 h1).1
    have : Rk.del x.1 (x :: P) = Rk.del x.1 P := by unfold Rk.del; simp
    rw [this]
    unfold Rk.del
    rw [List.filter_eq_self]
    intro y hy
    have := h2 y hy
    simp only [bne_iff_ne, ne_eq]
    exact fun e => this e.symm
  have hw := h.del x.1
  have hm := h.mp_del x.1
  rw [hd] at hw hm
  exact ⟨hw, hm, hd⟩
theorem Wf.drop : ∀ {l P : List En}, Wf (l ++ P) → Wf P
  | [], P, h => h
  | x :: l, P, h => Wf.drop (l := l) h.tail.1
theorem Wf.first {x : En} {P : List En} (h : Wf (x :: P)) : mp (x :: P) x.1 = some x.2 ∧ ∀ id k, mp (x :: P) id = some k → le x (id, k) := h.ord.head
theorem Wf.rest {x : En} {P : List En} (h : Wf (x :: P)) : ∀ y ∈ P, x.2 ≤ y.2 := by
  intro y hy
  have := (List.pairwise_cons.1 h.ord.1).1 y hy
  unfold lt at this
  omega
theorem pigeon : ∀ (n : Nat) (P : List En), P.Pairwise (fun a b => a.1 ≠ b.1) → (∀ x ∈ P, 0 ≤ x.1 ∧ x.1 < n) → P.length ≤ n
  | 0, [], _, _ => Nat.le_refl _
  | 0, x :: P, _, h => by have := h x (by simp); omega
  | n + 1, P, hp, h => by
    have h1 := pigeon n (del n P) (hp.filter _) (fun x hx => by
      have h2 := mem_del.1 hx
      have := h x h2.1
      omega)
    have h2 : P.length ≤ (del n P).length + 1 := by
      by_cases he : ∃ k, ((n : Int), k) ∈ P
      · obtain ⟨k, hk⟩ := he
        have := len_del_some hp hk
        omega
      · have : del (n : Int) P = P := by
          unfold del
          rw [List.filter_eq_self]
          intro x hx
          simp only [bne_iff_ne, ne_eq]
          intro e
          exact he ⟨x.2, by rw [← e]; exact hx⟩
        rw [this]; omega
    omega
theorem Wf.len {P : List En} (h : Wf P) : P.length ≤ 64 := pigeon 64 P h.ord.apart (fun x hx => h.dom x hx)
theorem Wf.len_del {P : List En} (h : Wf P) {id : Int} : (Rk.del id P).length = if (mp P id).isSome then P.length - 1 else P.length := by
  cases hm : mp P id with
  | none => rw [len_del_none h.ord hm]; rfl
  | some k => have := h.ord.del_len hm; simp; omega
theorem len_armed {id k : Int} {P : List En} : (armed id k P).length = (del id P).length + 1 := len_ins _ _

/-- what is due at a tick, and what is not -/
structure Cut (P : List En) (now : Int) (a b : List En) : Prop where
  eq : P = a ++ b
  due : ∀ x ∈ a, x.2 ≤ now
  left : ∀ x ∈ b, now < x.2
theorem Cut.unique {P : List En} {now : Int} : ∀ {a b c d : List En}, Cut P now a b → Cut P now c d → a = c ∧ b = d := by
  intro a
  induction a generalizing P with
  | nil =>
    intro b c d h k
    cases c with
    | nil => exact ⟨rfl, by have := h.eq.symm.trans k.eq; simpa using this⟩
    | cons y c =>
      have e := h.eq.symm.trans k.eq
      simp only [List.nil_append, List.cons_append] at e
      have h1 := k.due y (by simp)
      have h2 := h.left y (by rw [e]; simp)
      omega
  | cons x a ih =>
    intro b c d h k
    cases c with
    | nil =>
      have e := h.eq.symm.trans k.eq
      simp only [List.nil_append, List.cons_append] at e
      have h1 := h.due x (by simp)
      have h2 := k.left x (by rw [← e]; simp)
      omega
    | cons y c =>
      have e := h.eq.symm.trans k.eq
      simp only [List.cons_append, List.cons.injEq] at e
      obtain ⟨rfl, e⟩ := e
      obtain ⟨r1, r2⟩ := ih (P := a ++ b) ⟨rfl, fun z hz => h.due z (by simp [hz]), h.left⟩ (c := c) (d := d) ⟨e, fun z hz => k.due z (by simp [hz]), k.left⟩
      exact ⟨by rw [r1], r2⟩
theorem Cut.stop {P : List En} {now : Int} {a b : List En} (hw : Wf b) (eq : P = a ++ b) (due : ∀ x ∈ a, x.2 ≤ now) (h : b = [] ∨ ∃ x l, b = x :: l ∧ now < x.2) : Cut P now a b := by
  refine ⟨eq, due, fun x hx => ?_⟩
  rcases h with rfl | ⟨y, l, rfl, hy⟩
  · cases hx
  · rcases List.mem_cons.1 hx with rfl | hx
    · exact hy
    · have := hw.rest x hx; omega
theorem Wf.all {P : List En} (h : Wf P) {a b : List En} (c : Cut P 1099511627776 a b) : a = P ∧ b = [] := by
  cases b with
  | nil => exact ⟨by have := c.eq; simpa using this.symm, rfl⟩
  | cons x b =>
    have h1 := c.left x (by simp)
    have h2 := h.key x (by rw [c.eq]; simp)
    omega

/-- a bell's number; -1, if there may not be such a bell -/
def bk (kind id : Int) : Int := if 0 ≤ kind ∧ kind ≤ 3 ∧ 0 ≤ id ∧ id ≤ 15 then 16 * kind + id else -1
theorem bk_yes {kind id : Int} (h : 0 ≤ kind ∧ kind ≤ 3 ∧ 0 ≤ id ∧ id ≤ 15) : bk kind id = 16 * kind + id := if_pos h
theorem bk_no {kind id : Int} (h : ¬ (0 ≤ kind ∧ kind ≤ 3 ∧ 0 ≤ id ∧ id ≤ 15)) : bk kind id = -1 := if_neg h
theorem bk_iff {kind id n : Int} (h : 0 ≤ n ∧ n < 64) : bk kind id = n ↔ (n / 16 = kind ∧ n % 16 = id) := by
  unfold bk
  split <;> omega
theorem Wf.none {P : List En} (h : Wf P) : mp P (-1) = Option.none := by
  cases hm : mp P (-1) with
  | none => rfl
  | some k => have := h.dom _ (h.look.1 hm); simp only at this; omega
theorem Wf.del_no {P : List En} (h : Wf P) : Rk.del (-1) P = P := len_del_none h.ord h.none

/-- what Arm answers, and what is armed then -/
def armE (kind id k : Int) : Int := if bk kind id < 0 then 9 else if k < 0 ∨ 1099511627776 < k then 2 else 0
def armP (kind id k : Int) (P : List En) : List En := if armE kind id k = 0 then armed (bk kind id) k P else P
theorem bk_lt (kind id : Int) : bk kind id < 64 ∧ -1 ≤ bk kind id := by unfold bk; split <;> omega
theorem Wf.armP {P : List En} (h : Wf P) (kind id k : Int) : Wf (armP kind id k P) := by
  unfold Rk.armP
  split
  · rename_i e
    unfold armE at e
    have := bk_lt kind id
    split at e
    · cases e
    · split at e
      · cases e
      · exact h.armed (by omega) (by omega)
  · exact h
theorem armP_len {P : List En} (h : Wf P) (kind id k : Int) : (armP kind id k P).length ≤ P.length + 1 := by
  unfold armP
  split
  · rw [len_armed, h.len_del]; split <;> omega
  · omega

end Go.Proofs.Ytdfolbnnhglpeaa.Rk
