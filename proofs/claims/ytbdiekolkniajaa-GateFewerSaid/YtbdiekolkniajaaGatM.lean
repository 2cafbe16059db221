/- Partitions that are brought to be such, of short periods, without what is shared: plainly; rows of the call's own. -/
import Derived.Test.YtbdiekolkniajaaZp
import Derived.Test.YtbdiekolkniajaaZf
import Derived.Lib.SmallJoins
namespace Go.Proofs.Ytbdiekolkniajaa
open Go.RowKit Tk De Dl
set_option linter.unusedVariables false

theorem bring_eq (a : Int) {n : Int} (h : 0 < n) : (if a.tmod n < 0 then a.tmod n + n else a.tmod n) = a % n := by
  by_cases ha : 0 ≤ a
  · rw [Int.tmod_eq_emod_of_nonneg ha, if_neg (by have := Int.emod_nonneg a (show n ≠ 0 by omega); omega)]
  · rw [tmod_neg a n (by omega) (by omega), emod_neg a n (by omega)]
    have h1 := Int.emod_nonneg (-a) (show n ≠ 0 by omega)
    have h2 := Int.emod_lt_of_pos (-a) h
    by_cases h0 : (-a) % n = 0
    · rw [h0]; simp
    · rw [if_pos (by omega), if_neg h0]; omega
set_option maxHeartbeats 400000 in
theorem brings_any (a n : Int) (w : World) (h : 1 ≤ n) (hn : n ≤ 9007199254740992) : Calls Try.prog 6 #[.int .i64 a, .int .i64 n] w (IsN (a % n) w) := by
  rw [← bring_eq a (show 0 < n by omega)]
  have h1 := Int.lt_tmod_of_pos a (by omega : 0 < n)
  have h2 := Int.tmod_lt_of_pos a (by omega : 0 < n)
  have hz : (n == 0) = false := by simp; omega
  have hw64 : wrap64 (a.tmod n) = a.tmod n := by unfold wrap64; omega
  by_cases hr : a.tmod n < 0
  · rw [if_pos hr]
    have hd : decide (a.tmod n < 0) = true := by simpa using hr
    have hw2 : wrap64 (a.tmod n + n) = a.tmod n + n := by unfold wrap64; omega
    go_enter Try.func6, Try.ntmps6
    go_wp2
    go_ret
    exact ⟨rfl, rfl⟩
  · rw [if_neg hr]
    have hd : decide (a.tmod n < 0) = false := by simpa using hr
    go_enter Try.func6, Try.ntmps6
    go_wp2
    go_ret
    exact ⟨rfl, rfl⟩
theorem wrap_nat {x : Nat} (h : x ≤ 1000000) : wrap64 (x : Int) = x := by unfold wrap64; omega
/-- a number, brought to be a natural below n -/
def bn (a : Int) (n : Nat) : Nat := (a % (n : Int)).toNat
theorem bn_lt (a : Int) {n : Nat} (h : 0 < n) : bn a n < n := by
  unfold bn
  have h1 := Int.emod_nonneg a (show (n : Int) ≠ 0 by omega)
  have h2 := Int.emod_lt_of_pos a (show (0 : Int) < n by omega)
  omega
theorem bring_bn (a : Int) (n : Nat) (w : World) (h : 0 < n) (hn : n ≤ 1000000) : Calls Try.prog 6 #[.int .i64 a, .int .i64 n] w (IsN (bn a n : Nat) w) := by
  have e : ((bn a n : Nat) : Int) = a % (n : Int) := by
    unfold bn
    have h1 := Int.emod_nonneg a (show (n : Int) ≠ 0 by omega)
    omega
  rw [e]
  exact brings_any a n w (by omega) (by omega)
/-- a task that is made, in a partition with this budget -/
def gP (x : Nat → Int) : Nat := 1 + bn (x 0) 48
def gD (x : Nat → Int) : Nat := 1 + bn (x 1) (gP x)
def gB (x : Nat → Int) : Nat := 1 + bn (x 2) (gD x)
def mt (x : Nat → Int) : Nat → Int
  | 0 => gP x
  | 1 => gD x
  | 2 => gB x
  | _ => 0
def mPer (s : Pn) : Nat := 1 + bn s.per 10
def mBud (s : Pn) : Nat := 1 + bn s.bud (mPer s)
def mk (s : Pn) : Pn := ⟨mPer s, mBud s, min s.n 3, fun i => mt (s.z i)⟩
theorem mper_bd (s : Pn) : 1 ≤ mPer s ∧ mPer s ≤ 10 := by
  have := bn_lt s.per (n := 10) (by decide)
  unfold mPer; omega
theorem mbud_bd (s : Pn) : 1 ≤ mBud s ∧ mBud s ≤ mPer s := by
  have h := mper_bd s
  have := bn_lt s.bud (n := mPer s) (by omega)
  unfold mBud; omega
theorem g_bd (x : Nat → Int) : 1 ≤ gP x ∧ gP x ≤ 48 ∧ 1 ≤ gD x ∧ gD x ≤ gP x ∧ 1 ≤ gB x ∧ gB x ≤ gD x := by
  have h1 := bn_lt (x 0) (n := 48) (by decide)
  have e1 : gP x = 1 + bn (x 0) 48 := rfl
  have h2 := bn_lt (x 1) (n := gP x) (by omega)
  have e2 : gD x = 1 + bn (x 1) (gP x) := rfl
  have h3 := bn_lt (x 2) (n := gD x) (by omega)
  have e3 : gB x = 1 + bn (x 2) (gD x) := rfl
  omega
theorem mt_ok (bud : Int) (x : Nat → Int) : TB bud (mt x) := by
  have h := g_bd x
  refine ⟨tOK_iff.2 ?_, ?_, ?_, ?_, ?_, fun hg => ?_, fun hg => ⟨rfl, rfl⟩⟩
  · show (1 : Int) ≤ (gP x : Int) ∧ (gP x : Int) ≤ 64 ∧ 1 ≤ (gD x : Int) ∧ (gD x : Int) ≤ gP x ∧ 1 ≤ (gB x : Int) ∧ (gB x : Int) ≤ gD x
    omega
  · show (0 : Int) ≤ 0; omega
  · show (0 : Int) ≤ (gB x : Int); omega
  · show (0 : Int) ≤ 0; omega
  · show (0 : Int) ≤ 4; omega
  · exact absurd (show (0 : Int) < 0 from hg) (by omega)
theorem mk_ok (s : Pn) : PB (mk s) := by
  have h1 := mper_bd s
  have h2 := mbud_bd s
  refine ⟨?_, ?_, ?_, ?_, (by show min s.n 3 ≤ 4; omega), fun i _ => mt_ok _ _⟩
  · show (1 : Int) ≤ (mPer s : Int); omega
  · show (mPer s : Int) ≤ 64; omega
  · show (1 : Int) ≤ (mBud s : Int); omega
  · show (mBud s : Int) ≤ (mPer s : Int); omega
def ml (ps : List Pn) (most : Nat) : List Pn := (ps.take most).map mk
theorem ml_len (ps : List Pn) (most : Nat) : (ml ps most).length = min most ps.length := by simp [ml]
theorem mk_all (l : List Pn) (h : l.length ≤ 4) : chkP (l.map mk) = true := by
  refine okP_all (fun i hi => ?_) (by simpa using h)
  rw [List.length_map] at hi
  have e : (l.map mk).getD i p0 = mk l[i] := by simp [List.getD, List.getElem?_eq_getElem hi]
  rw [e]
  exact okP_iff.2 (mk_ok _)
theorem ml_ok {ps : List Pn} {most : Nat} (h : most ≤ 4) : chkP (ml ps most) = true := mk_all _ (by rw [List.length_take]; omega)
theorem mk_snoc {ps : List Pn} {k : Nat} (hk : k < ps.length) : (ps.take (k + 1)).map mk = (ps.take k).map mk ++ [mk (ps.getD k p0)] := by
  have e : ps.take (k + 1) = ps.take k ++ [ps.getD k p0] := by
    rw [List.take_add_one]
    simp [List.getElem?_eq_getElem hk, List.getD]
  rw [e, List.map_append]
  rfl
/-- the cells of the first k tasks -/
def zrow (t : Nat → Int) : List Value := [.int .i64 (t 0), .int .i64 (t 1), .int .i64 (t 2), .int .i64 (t 3), .int .i64 (t 4), .int .i64 (t 5), .int .i64 (t 6), .int .i64 (t 7)]
def zflat (z : Nat → Nat → Int) : Nat → List Value
  | 0 => []
  | k + 1 => zflat z k ++ zrow (z k)
theorem zflat_len (z : Nat → Nat → Int) : ∀ k, (zflat z k).length = k * 8
  | 0 => rfl
  | k + 1 => by rw [zflat, List.length_append, zflat_len]; simp [zrow]; omega
theorem zflat_at (z : Nat → Nat → Int) : ∀ {n i : Nat}, i < n → ∀ j, j < 8 → (zflat z n)[i * 8 + j]? = some (.int .i64 (z i j))
  | 0, _, h, _, _ => by cases h
  | n + 1, i, h, j, hj => by
    have hl := zflat_len z n
    rw [zflat]
    by_cases hc : i < n
    · rw [List.getElem?_append_left (by omega)]
      exact zflat_at z hc j hj
    · obtain rfl : i = n := by omega
      rw [List.getElem?_append_right (by omega), show i * 8 + j - (zflat z i).length = j by omega]
      match j, hj with
      | 0, _ => rfl | 1, _ => rfl | 2, _ => rfl | 3, _ => rfl | 4, _ => rfl | 5, _ => rfl | 6, _ => rfl | 7, _ => rfl
theorem infoTk : (Try.prog.info? 40).map (fun i => (i.zero, i.size, i.bytes)) = some (some (.agg #[.int .i64 0, .int .i64 0, .int .i64 0, .int .i64 0, .int .i64 0, .int .i64 0, .int .i64 0, .int .i64 0]), 8, 64) := by kernel_rfl
theorem infoPt : (Try.prog.info? 43).map (fun i => (i.zero, i.size, i.bytes)) = some (some (.agg #[.int .i64 0, .int .i64 0, .slice none 0 0]), 3, 40) := by kernel_rfl
/-- tasks of the call's own -/
def TW (w : World) (B : Nat) (v : Value) (n : Nat) (z : Nat → Nat → Int) : Prop := w.ownsRow B 40 8 v n (zflat z n)
theorem TW.tk {W : World} {B k : Nat} {v : Value} {z : Nat → Nat → Int} (h : TW W B v k z) : TK W v k z := by
  have hc := h
  rcases h.2 with ⟨rfl, h0⟩ | ⟨g, cap, cur, rfl, hg, hh, hnc, hcm, _⟩
  · subst h0
    exact TK.nil _ _
  · refine ⟨some ⟨g, 0, none⟩, cap, rfl, hnc, hcm, (fun h => by cases h), fun _ => ⟨g, 0, rfl, fun i hi j hj => ?_⟩⟩
    have := World.ownsRow.cells hc (g := g) rfl (i * 8 + j) _ (zflat_at z hi j hj)
    rw [Addr.add_lit, ← Nat.add_assoc] at this
    exact this
theorem TW.mono {W : World} {B C k : Nat} {v : Value} {z : Nat → Nat → Int} (h : TW W B v k z) (hC : C ≤ B) : TW W C v k z := by
  refine ⟨h.1, ?_⟩
  rcases h.2 with h0 | ⟨g, cap, cur, h1, h2, h3⟩
  · exact Or.inl h0
  · exact Or.inr ⟨g, cap, cur, h1, Nat.le_trans hC h2, h3⟩
theorem TW.slice {W : World} {B k : Nat} {v : Value} {z : Nat → Nat → Int} (h : TW W B v k z) : ∃ a cap, v = .slice a k cap := by
  rcases h.2 with ⟨rfl, rfl⟩ | ⟨g, cap, cur, rfl, _⟩
  · exact ⟨_, _, rfl⟩
  · exact ⟨_, _, rfl⟩
/-- partitions of the call's own -/
def PW (w : World) (B : Nat) (v : Value) (ps : List Pn) : Prop := ∃ l : List (Pn × Value), l.map (·.1) = ps ∧ w.ownsRow B 43 3 v l.length (pcells l) ∧ ∀ q ∈ l, TW w B q.2 q.1.n q.1.z ∧ q.1.n ≤ 4
theorem PW.nil (w : World) (B : Nat) : PW w B (.slice none 0 0) [] := ⟨[], rfl, World.ownsRow_nil w B _ 3, fun q hq => by cases hq⟩
theorem PW.ps {w : World} {B : Nat} {v : Value} {ps : List Pn} (h : PW w B v ps) : PS w v ps := by
  obtain ⟨l, rfl, ho, ht⟩ := h
  have hc := ho
  rcases ho.2 with ⟨rfl, h0⟩ | ⟨g, cap, cur, rfl, hg, hh, hnc, hcm, _⟩
  · have : l = [] := List.eq_nil_of_length_eq_zero h0
    subst this
    exact PS.nil _
  · refine ps_of (fun j u hj => ?_) (fun i hi => ?_) hnc hcm
    · have := World.ownsRow.cells hc (g := g) rfl j u hj
      rw [Addr.add_lit, Nat.zero_add] at this
      exact this
    · have hm : l.getD i pr0 ∈ l := by
        have : l.getD i pr0 = l[i] := by simp [List.getD, List.getElem?_eq_getElem hi]
        rw [this]; exact List.getElem_mem hi
      have := ht _ hm
      exact ⟨this.1.tk, by have := this.2; omega⟩
theorem PW.old {w w' : World} {B : Nat} {v : Value} {ps : List Pn} (h : PW w B v ps) (b : Below w.heap.size w w') : PW w' B v ps := by
  obtain ⟨l, h1, h2, h3⟩ := h
  exact ⟨l, h1, h2.kept (grown_of_below b) (by cases v.ownBlock <;> simp), fun q hq => ⟨(h3 q hq).1.kept (grown_of_below b) (by cases q.2.ownBlock <;> simp), (h3 q hq).2⟩⟩
/-- two rows of unlike elements stand apart -/
theorem own_two {w : World} {B C e f s t n m : Nat} {u v : Value} {xs ys : List Value} (h : w.ownsRow B e s u n xs) (k : w.ownsRow C f t v m ys) (hne : e ≠ f) : u.ownBlock = none ∨ u.ownBlock ≠ v.ownBlock := by
  rcases h.2 with ⟨rfl, _⟩ | ⟨g, cap, cur, rfl, _, hg, _⟩
  · exact Or.inl rfl
  · right
    rcases k.2 with ⟨rfl, _⟩ | ⟨g', cap', cur', rfl, _, hg', _⟩
    · simp [Value.ownBlock]
    · simp only [Value.ownBlock, ne_eq, Option.some.injEq]
      intro e1
      subst e1
      rw [hg] at hg'
      injection hg' with h1
      injection h1 with _ h2 _
      exact hne h2
/-- one more -/
theorem PW.more {w w1 : World} {B : Nat} {v v' : Value} {l : List (Pn × Value)} {o : Obj} {p : Pn} {tv : Value} (h2 : w.ownsRow B 43 3 v l.length (pcells l)) (h3 : ∀ q ∈ l, TW w B q.2 q.1.n q.1.z ∧ q.1.n ≤ 4) (ht : TW w B tv p.n p.z) (hn : p.n ≤ 4)
    (hown : w1.ownsRow B 43 3 v' (l.length + 1) (pcells (l ++ [(p, tv)]))) (hgrow : (w.alloc o).grownBy w1 v.ownBlock) : PW w1 B v' ((l.map (·.1)) ++ [p]) := by
  refine ⟨l ++ [(p, tv)], by simp, by rw [List.length_append]; exact hown, fun q hq => ?_⟩
  have one : ∀ q : Pn × Value, TW w B q.2 q.1.n q.1.z → TW w1 B q.2 q.1.n q.1.z := fun q hq => (World.ownsRow.alloc hq o).kept hgrow (own_two (World.ownsRow.alloc hq o) (World.ownsRow.alloc h2 o) (by decide))
  rcases List.mem_append.1 hq with hq | hq
  · exact ⟨one q (h3 q hq).1, (h3 q hq).2⟩
  · rw [List.mem_singleton] at hq
    subst hq
    exact ⟨one (p, tv) ht, hn⟩
end Go.Proofs.Ytbdiekolkniajaa
