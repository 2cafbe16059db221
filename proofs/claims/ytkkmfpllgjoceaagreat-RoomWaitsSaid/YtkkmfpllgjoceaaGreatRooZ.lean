/- A step of a play, any; a play begins; P18.7: RoomFree's walk. -/
import Derived.Test.YtkkmfpllgjoceaaGreatRooUl
import Derived.Test.YtkkmfpllgjoceaaGreatRooUr
import Derived.Test.YtkkmfpllgjoceaaGreatRooY
import Derived.Test.YtkkmfpllgjoceaaGreatRooV
namespace Go.Proofs.YtkkmfpllgjoceaaGreat.Ro
open Go.RowKit Go.Sort Ac Jo
set_option linter.unusedVariables false
set_option maxRecDepth 100000

section
variable {X : Nat → Option Obj} {Q : Rprg} {B : Nat} {W w w' : World} {pb rb : Nat} {tv ov : Value} {s s' : Rm} {now : Int} {O : List Int}
theorem step_any (h : PL X Q B W w pb rb tv ov s now O) (hp : Pl s now) (hO : O.length ≤ 900) (hnow : now ≤ 1000000) {x : Int} (hx0 : 0 ≤ x) (hx1 : x < 9600) :
    Calls Tryz.prog 16 #[.pointer (some ⟨pb, 0, none⟩), .int .i64 x] w (PLP X Q (.bool true) B W pb rb tv (stepS s now x) (stepN s now x) (stepO s x O)) := by
  by_cases q : isRel s x
  · exact step_rel h hp hO hnow hx0 hx1 q
  rcases who_goes hp with ⟨w', hw, g⟩ | ⟨hw, hl⟩
  · obtain ⟨k, rfl⟩ : ∃ k : Nat, w' = k := ⟨w'.toNat, by have := (hp.goes_in g).1; omega⟩
    have hk : 0 ≤ kindX x := by
      unfold kindX
      rw [Int.tdiv_eq_ediv_of_nonneg hx0]
      rw [Int.tmod_eq_emod_of_nonneg (by omega)]
      omega
    rcases (show kindX x = 0 ∨ kindX x = 1 ∨ kindX x = 2 ∨ kindX x = 3 ∨ kindX x = 4 ∨ 5 ≤ kindX x by omega) with e | e | e | e | e | e
    · exact step_lock0 h hp hO hnow hx0 hx1 q hw g e
    · exact step_lock1 h hp hO hnow hx0 hx1 q hw g e
    · exact step_lock2 h hp hO hnow hx0 hx1 q hw g e
    · exact step_unl h hp hO hnow hx0 hx1 q hw g e
    · exact step_fin h hp hO hnow hx0 hx1 q hw g e
    · exact step_run h hp hO hnow hx0 hx1 q hw g e
  · exact step_none h hp hO hnow hx0 hx1 q hw hl
end
theorem stepO_len (s : Rm) (x : Int) (O : List Int) : (stepO s x O).length ≤ O.length + 1 := by
  unfold stepO
  split
  · omega
  · split
    · unfold actO
      split
      · split
        · rw [List.length_append]; exact Nat.le_refl _
        · omega
      · split
        · split
          · have := gone_len O (by assumption : Int); exact Nat.le_trans (gone_len O _) (by omega)
          · omega
        · split
          · exact Nat.le_trans (gone_len O _) (by omega)
          · omega
    · omega
theorem stepN_le (s : Rm) (now x : Int) : stepN s now x ≤ now + 1 := by unfold stepN; split <;> omega
/-- a play begins -/
theorem PL.begin {Q : Rprg} {B : Nat} {W w : World} {rb : Nat} {tv : Value} {n : Nat} {z : Nat → Nat → Int} (h : OF Q B W w rb (noRm n z) (fun k => tv.ownBlock = some k)) (ht : St.NT w B tv n z) (hB : B ≤ w.heap.size) :
    PL (fun _ => none) Q B W (w.alloc (.cells #[.pointer (some ⟨rb, 0, none⟩), tv, .int .i64 0, .slice none 0 0] 46)) w.heap.size rb tv (.slice none 0 0) (noRm n z) 0 [] := by
  have hb := below_al w (.cells #[.pointer (some ⟨rb, 0, none⟩), tv, .int .i64 0, .slice none 0 0] 46)
  refine ⟨heap_alloc_new w _, row_keep ht (fun k hk => hb.block k (own_ge ht k hk).2), World.ownsRow_nil _ _ _ _, ?_, fun k hk => by simp [Value.ownBlock] at hk, fun k hk => by have := (own_ge ht k hk).2; omega, fun k hk => by simp [Value.ownBlock] at hk, hB, (fun k o hk => by cases hk), (fun k hk => by cases hk)⟩
  refine h.to (Only.of_below hb) (fun k hk => (own_ge ht k hk).1) (fun k hk => ?_)
  rcases hk with e | e | e | e
  · exact Or.inr (by rw [World.size_alloc]; omega)
  · exact Or.inl e
  · simp [Value.ownBlock] at e
  · cases e
theorem is_two {w : World} {n cap : Nat} {a : Option Addr} {xs : List Int} (h : St.IS w (.slice a n cap) xs) {i j : Nat} (hi : i < n) (hj : j < n) : ∃ b off, a = some ⟨b, off, none⟩ ∧ w.cell? ⟨b, off + i, none⟩ = some (.int .i64 (xs.getD i 0)) ∧ w.cell? ⟨b, off + j, none⟩ = some (.int .i64 (xs.getD j 0)) := by
  obtain ⟨b, off, rfl, h1⟩ := h.at hi
  obtain ⟨b', off', e, h2⟩ := h.at hj
  injection e with e
  injection e with e1 e2 _
  subst e1; subst e2
  exact ⟨b, off, rfl, h1, h2⟩
/-- who has something locked has a deadline -/
theorem ord_dead {s : Rm} {now : Int} {O : List Int} (hp : Pl s now) (ho : Ord s.dl s.E O) {k : Nat} (hk : k < O.length) : deadV s (O.getD k 0) = .tuple #[.int .i64 (s.dl (O.getD k 0)), .bool true] := by
  have hm : O.getD k 0 ∈ O := by rw [List.getD_eq_getElem?_getD, List.getElem?_eq_getElem hk]; exact List.getElem_mem _
  obtain ⟨e, he, h1⟩ := ho.hd _ hm
  have h2 := hp.iv.own e he
  rw [h1] at h2
  exact if_pos (asked_job hp.iv h2).1
/-- a play, between two rounds -/
structure PS (X : Nat → Option Obj) (B : Nat) (W wr : World) (pb rb : Nat) (tv : Value) (n : Nat) (j : Nat) (s : Rm) (now : Int) (O : List Int) (ov : Value) : Prop where
  pl : PL X Q0 B W wr pb rb tv ov s now O
  hp : Pl s now
  od : Ord s.dl s.E O
  n1 : now ≤ j
  ol : O.length ≤ j
  nn : s.n = n
theorem PS.step {X : Nat → Option Obj} {B : Nat} {W wr : World} {pb rb : Nat} {tv ov : Value} {n j : Nat} {s : Rm} {now : Int} {O : List Int} (h : PS X B W wr pb rb tv n j s now O ov) (hj : j < 150) {x : Int} (hx0 : 0 ≤ x) (hx1 : x < 9600) :
    Calls Tryz.prog 16 #[.pointer (some ⟨pb, 0, none⟩), .int .i64 x] wr (fun e w' => e = .returned (.bool true) ∧ ∃ ov', PS X B W w' pb rb tv n (j + 1) (stepS s now x) (stepN s now x) (stepO s x O) ov') := by
  have h1 := h.n1
  have h2 := h.ol
  refine (step_any h.pl h.hp (by omega) (by omega) hx0 hx1).mono ?_
  rintro e w' ⟨rfl, ov', hl⟩
  exact ⟨rfl, ov', ⟨hl, h.hp.step x, h.od.step h.hp x, by have := stepN_le s now x; omega, by have := stepO_len s x O; omega, (stepS_nz s now x).1.trans h.nn⟩⟩
theorem PS.below {X : Nat → Option Obj} {B : Nat} {W wr w' : World} {pb rb : Nat} {tv ov : Value} {n j : Nat} {s : Rm} {now : Int} {O : List Int} (h : PS X B W wr pb rb tv n j s now O ov) (q : Below wr.heap.size wr w') : PS X B W w' pb rb tv n j s now O ov := ⟨h.pl.below q, h.hp, h.od, h.n1, h.ol, h.nn⟩
end Go.Proofs.YtkkmfpllgjoceaaGreat.Ro
