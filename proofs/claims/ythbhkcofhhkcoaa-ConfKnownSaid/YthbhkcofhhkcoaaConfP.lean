/- Configurations, plainly: which may be, their numbers, what is read of bytes. -/
import Derived.Test.YthbhkcofhhkcoaaPackP
namespace Go.Proofs.Ythbhkcofhhkcoaa.Cn
open Go.Proofs.Ythbhkcofhhkcoaa.Pk
set_option linter.unusedVariables false

/-- a task: its eight numbers, in their order -/
structure Tk where
  (p d b l o g n k : Int)
def Tk.row (t : Tk) : List Int := [t.p, t.d, t.b, t.l, t.o, t.g, t.n, t.k]
def Tk.of (r : List Int) : Tk := ⟨r.getD 0 0, r.getD 1 0, r.getD 2 0, r.getD 3 0, r.getD 4 0, r.getD 5 0, r.getD 6 0, r.getD 7 0⟩
def tk0 : Tk := ⟨0, 0, 0, 0, 0, 0, 0, 0⟩
/-- a port: its six numbers -/
structure Po where
  (k f t s d a : Int)
def Po.row (o : Po) : List Int := [o.k, o.f, o.t, o.s, o.d, o.a]
def Po.of (r : List Int) : Po := ⟨r.getD 0 0, r.getD 1 0, r.getD 2 0, r.getD 3 0, r.getD 4 0, r.getD 5 0⟩
def po0 : Po := ⟨0, 0, 0, 0, 0, 0⟩
structure Pt where
  (per bud : Int)
  (ts : List Tk)
def pt0 : Pt := ⟨0, 0, []⟩
structure Cf where
  (ps : List Pt)
  (os : List Po)
def c0 : Cf := ⟨[], []⟩

/-! which may be -/
def wi (n l h : Int) : Bool := decide (l ≤ n) && decide (n ≤ h)
def mayTimes (t : Tk) : Bool := wi t.p 1 64 && wi t.d 1 t.p && wi t.b 1 t.d
def mayLocals (t : Tk) : Bool := if t.l = 0 then t.o == 0 else wi t.l 1 255 && wi t.o 1 t.b
def mayGlobal (t : Tk) (bud : Int) : Bool := if t.g = 0 then t.n == 0 && t.k == 0 else wi t.g 1 4 && wi t.n 1 bud && wi t.k 1 (t.b.tdiv t.n)
def mayTask (t : Tk) (bud : Int) : Bool := mayTimes t && mayLocals t && mayGlobal t bud
def mayServer (p : Pt) : Bool := wi p.per 1 64 && wi p.bud 1 p.per && decide (p.ts.length ≤ 4)
def mayPart (p : Pt) : Bool := mayServer p && p.ts.all (fun t => mayTask t p.bud)
def mayParts (ps : List Pt) : Bool := wi ps.length 1 4 && ps.all mayPart
def mayEnds (o : Po) (n : Int) : Bool := wi o.f 0 (n - 1) && wi o.t 0 (n - 1) && !(o.f == o.t)
def mayKept (o : Po) : Bool := if o.k = 1 then o.d == 0 && wi o.a 1 64 else if o.k = 2 then wi o.d 1 4 && o.a == 0 else false
def mayPort (o : Po) (n : Int) : Bool := mayEnds o n && wi o.s 1 16 && mayKept o
def mayPorts (os : List Po) (n : Int) : Bool := decide (os.length ≤ 8) && os.all (fun o => mayPort o n)
def may (c : Cf) : Bool := mayParts c.ps && mayPorts c.os c.ps.length

/-! the numbers of a configuration -/
def Pt.row (p : Pt) : List Int := p.per :: p.bud :: (p.ts.length : Int) :: p.ts.flatMap Tk.row
def rowP (ps : List Pt) : List Int := (ps.length : Int) :: ps.flatMap Pt.row
def rowO (os : List Po) : List Int := (os.length : Int) :: os.flatMap Po.row
def Cf.row (c : Cf) : List Int := rowP c.ps ++ rowO c.os

/-! what is read: of bytes that are left, and an error -/
abbrev St := List Int × Int
abbrev MX : Int := 9007199254740991
def rd (most : Int) (s : St) : Int × St := rdN s.1 s.2 most
def many {α : Type} (f : St → α × St) : Nat → St → List α × St
  | 0, s => ([], s)
  | k + 1, s => ((f s).1 :: (many f k (f s).2).1, (many f k (f s).2).2)
theorem many_snoc {α : Type} (f : St → α × St) (k : Nat) : ∀ s, many f (k + 1) s = ((many f k s).1 ++ [(f (many f k s).2).1], (f (many f k s).2).2) := by
  induction k with
  | zero => intro s; rfl
  | succ k ih => intro s; rw [many, ih]; simp [many]
theorem many_length {α : Type} (f : St → α × St) (k : Nat) : ∀ s, (many f k s).1.length = k := by
  induction k with
  | zero => intro s; rfl
  | succ k ih => intro s; simp [many, ih]
def rowN (m : Nat) (s : St) : List Int × St := many (rd MX) m s
theorem rowN_length (m : Nat) (s : St) : (rowN m s).1.length = m := many_length _ _ _
theorem rowN_snoc (m : Nat) (s : St) : rowN (m + 1) s = ((rowN m s).1 ++ [(rd MX (rowN m s).2).1], (rd MX (rowN m s).2).2) := many_snoc _ _ _
def rdTk (s : St) : Tk × St := (Tk.of (rowN 8 s).1, (rowN 8 s).2)
def rdTs (s : St) : List Tk × St := many rdTk (rd 4 s).1.toNat (rd 4 s).2
def rdPt (s : St) : Pt × St := (⟨(rowN 2 s).1.getD 0 0, (rowN 2 s).1.getD 1 0, (rdTs (rowN 2 s).2).1⟩, (rdTs (rowN 2 s).2).2)
def rdPs (s : St) : List Pt × St := many rdPt (rd 4 s).1.toNat (rd 4 s).2
def rdPo (s : St) : Po × St := (Po.of (rowN 6 s).1, (rowN 6 s).2)
def rdOs (s : St) : List Po × St := many rdPo (rd 8 s).1.toNat (rd 8 s).2
def rdC (s : St) : Cf × St := (⟨(rdPs s).1, (rdOs (rdPs s).2).1⟩, (rdOs (rdPs s).2).2)
def en (s : St) : Int := if s.1.length > 0 then 4 else s.2
def fin (s : St) : Int := if en s = 5 then 50 else en s
def parse (xs : List Int) : Cf × Int := if fin (rdC (xs, 0)).2 ≠ 0 then (c0, fin (rdC (xs, 0)).2) else if may (rdC (xs, 0)).1 then ((rdC (xs, 0)).1, 0) else (c0, 50)

/-- what every reading keeps to -/
structure Good {α : Type} (f : St → α × St) : Prop where
  stick : ∀ s, s.2 ≠ 0 → (f s).2 = s
  bys : ∀ s, Bys s.1 → Bys (f s).2.1
  err : ∀ s, (s.2 ≠ 0 → s.1 = []) → s.2 ∈ [0, 3, 4, 5] → ((f s).2.2 ≠ 0 → (f s).2.1 = []) ∧ (f s).2.2 ∈ [0, 3, 4, 5]
theorem rd_stick (m : Int) (s : St) (h : s.2 ≠ 0) : rd m s = (0, s) := by unfold rd rdN; rw [if_pos h]
theorem rd_zero (m : Int) (xs : List Int) : rd m (xs, 0) = cutN xs m := by unfold rd rdN; rw [if_neg (by simp)]
theorem cutN_cases (xs : List Int) (m : Int) : (∃ e, (e = 3 ∨ e = 4 ∨ e = 5) ∧ cutN xs m = (0, [], e)) ∨ ((cutAny xs).2.2 = 0 ∧ (cutAny xs).1 ≤ m ∧ cutN xs m = ((cutAny xs).1, (cutAny xs).2.1, 0)) := by
  unfold cutN
  rcases cutAny_err xs with h | ⟨h1, h2, h3⟩
  · rw [if_neg (by simp [h])]
    by_cases hm : (cutAny xs).1 > m
    · rw [if_pos hm]; exact Or.inl ⟨5, by simp, rfl⟩
    · rw [if_neg hm]; exact Or.inr ⟨h, by omega, rfl⟩
  · left
    rw [if_pos (by omega)]
    exact ⟨_, by omega, rfl⟩
theorem cutAny_bys {xs : List Int} (b : Bys xs) : Bys (cutAny xs).2.1 := by
  rcases cutAny_err xs with h | ⟨_, h2, _⟩
  · have := (num_cutAny b h).1
    intro y hy
    exact b y (by rw [this]; exact List.mem_append_right _ hy)
  · rw [h2]; exact Bys.nil
theorem rd_good (m : Int) : Good (rd m) where
  stick s h := by rw [rd_stick m s h]
  bys s hb := by
    obtain ⟨xs, e⟩ := s
    by_cases h : e = 0
    · subst h
      rw [rd_zero]
      rcases cutN_cases xs m with ⟨e, _, h⟩ | ⟨_, _, h⟩
      · rw [h]; exact Bys.nil
      · rw [h]; exact cutAny_bys hb
    · rw [rd_stick m _ h]; exact hb
  err s hn he := by
    obtain ⟨xs, e⟩ := s
    by_cases h : e = 0
    · subst h
      rw [rd_zero]
      rcases cutN_cases xs m with ⟨e, h1, h⟩ | ⟨_, _, h⟩
      · rw [h]; exact ⟨fun _ => rfl, by simp; omega⟩
      · rw [h]; exact ⟨fun h => absurd rfl h, by simp⟩
    · rw [rd_stick m _ h]; exact ⟨hn, he⟩
theorem Good.many {α : Type} {f : St → α × St} (h : Good f) (k : Nat) : Good (many f k) where
  stick s hs := by
    induction k generalizing s with
    | zero => rfl
    | succ k ih => rw [Cn.many]; simp only; rw [h.stick s hs, ih s hs]
  bys s hb := by
    induction k generalizing s with
    | zero => exact hb
    | succ k ih => rw [Cn.many]; exact ih _ (h.bys s hb)
  err s hn he := by
    induction k generalizing s with
    | zero => exact ⟨hn, he⟩
    | succ k ih => rw [Cn.many]; exact ih _ (h.err s hn he).1 (h.err s hn he).2
theorem Good.count {α : Type} {f : St → α × St} (h : Good f) (m : Int) : Good (fun s => Cn.many f (rd m s).1.toNat (rd m s).2) where
  stick s hs := by
    have h1 := (rd_good m).stick s hs
    rw [h1]; exact (h.many _).stick s hs
  bys s hb := (h.many _).bys _ ((rd_good m).bys s hb)
  err s hn he := (h.many _).err _ ((rd_good m).err s hn he).1 ((rd_good m).err s hn he).2
theorem row_good (m : Nat) : Good (rowN m) := (rd_good MX).many m
theorem rdTk_good : Good rdTk := ⟨(row_good 8).stick, (row_good 8).bys, (row_good 8).err⟩
theorem rdPo_good : Good rdPo := ⟨(row_good 6).stick, (row_good 6).bys, (row_good 6).err⟩
theorem rdTs_good : Good rdTs := rdTk_good.count 4
theorem rdPt_good : Good rdPt where
  stick s hs := by
    have h1 := (row_good 2).stick s hs
    show (rdTs (rowN 2 s).2).2 = s
    rw [h1, rdTs_good.stick s hs]
  bys s hb := rdTs_good.bys _ ((row_good 2).bys s hb)
  err s hn he := rdTs_good.err _ ((row_good 2).err s hn he).1 ((row_good 2).err s hn he).2
theorem rdPs_good : Good rdPs := rdPt_good.count 4
theorem rdOs_good : Good rdOs := rdPo_good.count 8
theorem rdC_good : Good rdC where
  stick s hs := by
    have h1 := rdPs_good.stick s hs
    show (rdOs (rdPs s).2).2 = s
    rw [h1, rdOs_good.stick s hs]
  bys s hb := rdOs_good.bys _ (rdPs_good.bys s hb)
  err s hn he := rdOs_good.err _ (rdPs_good.err s hn he).1 (rdPs_good.err s hn he).2
theorem parse_err (xs : List Int) : (parse xs).2 = 0 ∨ (parse xs).2 = 3 ∨ (parse xs).2 = 4 ∨ (parse xs).2 = 50 := by
  have h := (rdC_good.err (xs, 0) (fun h => absurd rfl h) (by simp)).2
  generalize (rdC (xs, 0)).2 = s at h
  unfold parse
  have h2 : fin (rdC (xs, 0)).2 = 0 ∨ fin (rdC (xs, 0)).2 = 3 ∨ fin (rdC (xs, 0)).2 = 4 ∨ fin (rdC (xs, 0)).2 = 50 := by
    have h := (rdC_good.err (xs, 0) (fun h => absurd rfl h) (by simp)).2
    unfold fin en
    simp at h
    split <;> split <;> omega
  split
  · simpa using h2
  · split
    · exact Or.inl rfl
    · exact Or.inr (Or.inr (Or.inr rfl))
theorem parse_no {xs : List Int} (h : (parse xs).2 ≠ 0) : (parse xs).1 = c0 := by
  unfold parse at h ⊢
  split
  · rfl
  · rename_i h1
    rw [if_neg h1] at h
    split
    · rename_i h2; rw [if_pos h2] at h; exact absurd rfl h
    · rfl
theorem parse_may {xs : List Int} (h : (parse xs).2 = 0) : may (parse xs).1 = true := by
  unfold parse at h ⊢
  split
  · rename_i h1; rw [if_pos h1] at h; exact absurd h h1
  · rename_i h1
    rw [if_neg h1] at h
    split
    · assumption
    · rename_i h2; rw [if_neg h2] at h; cases h

/-! what was put is read as it was; what is cut -/
/-- of the bytes of L, f reads x; of a beginning of them it reads ErrTrunc -/
structure Ex {α : Type} (f : St → α × St) (x : α) (L : List Int) : Prop where
  put : ∀ t, f (nums L ++ t, 0) = (x, (t, 0))
  cut : ∀ k, k < (nums L).length → (f ((nums L).take k, 0)).2 = ([], 3)
theorem nums_append (l m : List Int) : nums (l ++ m) = nums l ++ nums m := by
  induction l with
  | nil => rfl
  | cons x l ih => simp [nums, ih]
theorem nums_one (n : Int) : nums [n] = num n := by simp [nums]
theorem rd_ex {n m : Int} (hn : isN n = true) (hm : n ≤ m) : Ex (rd m) n [n] where
  put t := by rw [rd_zero, nums_one, cutN_num hn t hm]
  cut k hk := by rw [rd_zero, nums_one]; rw [nums_one] at hk; rw [cutN_cut hn hk]
theorem take_two {a b : List Int} {k : Nat} (h : a.length ≤ k) : (a ++ b).take k = a ++ b.take (k - a.length) := by
  rw [List.take_append, List.take_of_length_le h]
theorem ex_seq {α β γ : Type} {f : St → α × St} {g : α → St → β × St} {h : St → γ × St} {x : α} {y : β} {z : γ} {L M : List Int} (hf : Ex f x L) (hg : Ex (g x) y M) (gs : ∀ a s, s.2 ≠ 0 → (g a s).2 = s)
    (hh : ∀ s, (h s).2 = (g (f s).1 (f s).2).2) (hv : ∀ t, (h (nums L ++ (nums M ++ t), 0)).1 = z) : Ex h z (L ++ M) where
  put t := by
    rw [nums_append, List.append_assoc]
    refine Prod.ext (hv t) ?_
    rw [hh, hf.put, hg.put]
  cut k hk := by
    rw [hh]
    rw [nums_append, List.length_append] at hk
    by_cases hc : k < (nums L).length
    · have e : (nums (L ++ M)).take k = (nums L).take k := by rw [nums_append, List.take_append_of_le_length (Nat.le_of_lt hc)]
      rw [e, gs _ _ (by rw [hf.cut k hc]; simp), hf.cut k hc]
    · rw [nums_append, take_two (by omega), hf.put]
      exact hg.cut _ (by omega)
theorem ex_many {α : Type} {f : St → α × St} (gf : Good f) {r : α → List Int} : ∀ {l : List α}, (∀ x ∈ l, Ex f x (r x)) → Ex (many f l.length) l (l.flatMap r)
  | [], _ => ⟨fun t => rfl, fun k hk => by simp [nums] at hk⟩
  | x :: l, h => by
    have h1 : Ex f x (r x) := h x (by simp)
    have h2 : Ex (many f l.length) l (l.flatMap r) := ex_many gf fun y hy => h y (by simp [hy])
    rw [List.flatMap_cons]
    refine ex_seq (g := fun _ => many f l.length) h1 h2 (fun _ s hs => (gf.many _).stick s hs) (fun s => rfl) (fun t => ?_)
    show (f _).1 :: (many f l.length (f _).2).1 = _
    rw [h1.put, h2.put]
theorem ex_row : ∀ {l : List Int}, l.all isN = true → Ex (rowN l.length) l l := by
  intro l h
  have := ex_many (rd_good MX) (r := fun n => [n]) (l := l) (fun x hx => rd_ex (List.all_eq_true.1 h x hx) (isN_yes (List.all_eq_true.1 h x hx)).2)
  have e : l.flatMap (fun n => [n]) = l := by
    clear this h
    induction l with
    | nil => rfl
    | cons x l ih => rw [List.flatMap_cons, ih]; rfl
  rw [e] at this
  exact this
theorem ex_count {α : Type} {f : St → α × St} (gf : Good f) {r : α → List Int} {m : Int} {l : List α} (hm : (l.length : Int) ≤ m) (hm2 : m ≤ 8) (h : ∀ x ∈ l, Ex f x (r x)) :
    Ex (fun s => many f (rd m s).1.toNat (rd m s).2) l ((l.length : Int) :: l.flatMap r) := by
  have h1 : Ex (rd m) (l.length : Int) [(l.length : Int)] := rd_ex (by unfold isN; simp; omega) hm
  have h2 := ex_many gf h
  refine ex_seq (g := fun n => many f n.toNat) (x := (l.length : Int)) (L := [(l.length : Int)]) (M := l.flatMap r) (y := l) h1 (by simpa using h2) (fun n s hs => (gf.many _).stick s hs) (fun s => rfl) (fun t => ?_)
  show (many f (rd m _).1.toNat (rd m _).2).1 = _
  rw [h1.put, Int.toNat_natCast, h2.put]
theorem of_tk (t : Tk) : Tk.of t.row = t := rfl
theorem of_po (o : Po) : Po.of o.row = o := rfl
theorem ex_tk {t : Tk} (h : t.row.all isN = true) : Ex rdTk t t.row where
  put s := by
    have := (ex_row h).put s
    show (Tk.of (rowN 8 _).1, (rowN 8 _).2) = _
    have e : t.row.length = 8 := rfl
    rw [e] at this
    rw [this, of_tk]
  cut k hk := (ex_row h).cut k hk
theorem ex_po {o : Po} (h : o.row.all isN = true) : Ex rdPo o o.row where
  put s := by
    have := (ex_row h).put s
    show (Po.of (rowN 6 _).1, (rowN 6 _).2) = _
    have e : o.row.length = 6 := rfl
    rw [e] at this
    rw [this, of_po]
  cut k hk := (ex_row h).cut k hk
/-- each number of it has bytes, and there are not too many of anything -/
def okPt (p : Pt) : Prop := isN p.per = true ∧ isN p.bud = true ∧ p.ts.length ≤ 4 ∧ ∀ t ∈ p.ts, t.row.all isN = true
def okC (c : Cf) : Prop := c.ps.length ≤ 4 ∧ c.os.length ≤ 8 ∧ (∀ p ∈ c.ps, okPt p) ∧ ∀ o ∈ c.os, o.row.all isN = true
theorem ex_pt {p : Pt} (h : okPt p) : Ex rdPt p p.row := by
  obtain ⟨h1, h2, h3, h4⟩ := h
  have r2 : Ex (rowN 2) [p.per, p.bud] [p.per, p.bud] := ex_row (l := [p.per, p.bud]) (by simp [h1, h2])
  have rt : Ex rdTs p.ts ((p.ts.length : Int) :: p.ts.flatMap Tk.row) := ex_count rdTk_good (by omega) (by decide) (fun t ht => ex_tk (h4 t ht))
  refine ex_seq (g := fun _ => rdTs) (L := [p.per, p.bud]) (M := (p.ts.length : Int) :: p.ts.flatMap Tk.row) r2 rt (fun _ s hs => rdTs_good.stick s hs) (fun s => rfl) (fun t => ?_)
  show (⟨(rowN 2 _).1.getD 0 0, (rowN 2 _).1.getD 1 0, (rdTs (rowN 2 _).2).1⟩ : Pt) = p
  rw [r2.put, rt.put]
  rfl
theorem ex_ps {ps : List Pt} (hl : ps.length ≤ 4) (h : ∀ p ∈ ps, okPt p) : Ex rdPs ps (rowP ps) := ex_count rdPt_good (by omega) (by decide) (fun p hp => ex_pt (h p hp))
theorem ex_os {os : List Po} (hl : os.length ≤ 8) (h : ∀ o ∈ os, o.row.all isN = true) : Ex rdOs os (rowO os) := ex_count rdPo_good (by omega) (by decide) (fun o ho => ex_po (h o ho))
theorem ex_c {c : Cf} (h : okC c) : Ex rdC c c.row := by
  have h1 := ex_ps h.1 h.2.2.1
  have h2 := ex_os h.2.1 h.2.2.2
  refine ex_seq (g := fun _ => rdOs) h1 h2 (fun _ s hs => rdOs_good.stick s hs) (fun s => rfl) (fun t => ?_)
  show (⟨(rdPs _).1, (rdOs (rdPs _).2).1⟩ : Cf) = c
  rw [h1.put, h2.put]
theorem wi_yes {n l h : Int} (k : wi n l h = true) : l ≤ n ∧ n ≤ h := by simpa [wi] using k
theorem isN_of {n : Int} (h0 : 0 ≤ n) (h1 : n ≤ 255) : isN n = true := by unfold isN; simp; omega
theorem mayTimes_yes {t : Tk} (h : mayTimes t = true) : 1 ≤ t.p ∧ t.p ≤ 64 ∧ 1 ≤ t.d ∧ t.d ≤ t.p ∧ 1 ≤ t.b ∧ t.b ≤ t.d := by
  unfold mayTimes at h
  simp only [Bool.and_eq_true] at h
  have h1 := wi_yes h.1.1; have h2 := wi_yes h.1.2; have h3 := wi_yes h.2
  omega
theorem mayTask_row {t : Tk} {bud : Int} (hb : bud ≤ 64) (h : mayTask t bud = true) : t.row.all isN = true := by
  unfold mayTask at h
  simp only [Bool.and_eq_true] at h
  obtain ⟨⟨h1, h2⟩, h3⟩ := h
  have ht := mayTimes_yes h1
  have hl : 0 ≤ t.l ∧ t.l ≤ 255 ∧ 0 ≤ t.o ∧ t.o ≤ 64 := by
    unfold mayLocals at h2
    split at h2
    · have : t.o = 0 := by simpa using h2
      omega
    · simp only [Bool.and_eq_true] at h2
      have g1 := wi_yes h2.1; have g2 := wi_yes h2.2
      omega
  have hg : 0 ≤ t.g ∧ t.g ≤ 4 ∧ 0 ≤ t.n ∧ t.n ≤ 64 ∧ 0 ≤ t.k ∧ t.k ≤ 64 := by
    unfold mayGlobal at h3
    split at h3
    · simp only [Bool.and_eq_true] at h3
      have g1 : t.n = 0 := by simpa using h3.1
      have g2 : t.k = 0 := by simpa using h3.2
      omega
    · simp only [Bool.and_eq_true] at h3
      have g1 := wi_yes h3.1.1; have g2 := wi_yes h3.1.2; have g3 := wi_yes h3.2
      have g4 : t.b.tdiv t.n ≤ t.b := Int.tdiv_le_self _ (by omega)
      omega
  unfold Tk.row
  simp only [List.all_cons, List.all_nil, Bool.and_true, Bool.and_eq_true]
  refine ⟨?_, ?_, ?_, ?_, ?_, ?_, ?_, ?_⟩ <;> exact isN_of (by omega) (by omega)
theorem mayPart_ok {p : Pt} (h : mayPart p = true) : okPt p := by
  unfold mayPart mayServer at h
  simp only [Bool.and_eq_true, decide_eq_true_eq] at h
  obtain ⟨⟨⟨h1, h2⟩, h3⟩, h4⟩ := h
  have g1 := wi_yes h1; have g2 := wi_yes h2
  refine ⟨isN_of (by omega) (by omega), isN_of (by omega) (by omega), h3, fun t ht => mayTask_row (by omega) (List.all_eq_true.1 h4 t ht)⟩
theorem mayPort_row {o : Po} {n : Int} (hn : n ≤ 4) (h : mayPort o n = true) : o.row.all isN = true := by
  unfold mayPort mayEnds at h
  simp only [Bool.and_eq_true] at h
  obtain ⟨⟨⟨⟨h1, h2⟩, h3⟩, h4⟩, h5⟩ := h
  have g1 := wi_yes h1; have g2 := wi_yes h2; have g4 := wi_yes h4
  have hk : 0 ≤ o.k ∧ o.k ≤ 2 ∧ 0 ≤ o.d ∧ o.d ≤ 4 ∧ 0 ≤ o.a ∧ o.a ≤ 64 := by
    unfold mayKept at h5
    split at h5
    · simp only [Bool.and_eq_true] at h5
      have q1 : o.d = 0 := by simpa using h5.1
      have q2 := wi_yes h5.2
      omega
    · split at h5
      · simp only [Bool.and_eq_true] at h5
        have q1 : o.a = 0 := by simpa using h5.2
        have q2 := wi_yes h5.1
        omega
      · cases h5
  unfold Po.row
  simp only [List.all_cons, List.all_nil, Bool.and_true, Bool.and_eq_true]
  refine ⟨?_, ?_, ?_, ?_, ?_, ?_⟩ <;> exact isN_of (by omega) (by omega)
theorem may_ok {c : Cf} (h : may c = true) : okC c := by
  unfold may mayParts mayPorts at h
  simp only [Bool.and_eq_true, decide_eq_true_eq] at h
  obtain ⟨⟨h1, h2⟩, h3, h4⟩ := h
  have g1 := wi_yes h1
  exact ⟨by omega, h3, fun p hp => mayPart_ok (List.all_eq_true.1 h2 p hp), fun o ho => mayPort_row (by omega) (List.all_eq_true.1 h4 o ho)⟩
theorem flat_all {α : Type} {l : List α} {r : α → List Int} (h : ∀ x ∈ l, (r x).all isN = true) : (l.flatMap r).all isN = true := by
  induction l with
  | nil => rfl
  | cons x l ih => rw [List.flatMap_cons, List.all_append, h x (by simp), ih (fun y hy => h y (by simp [hy]))]; rfl
theorem flat_len {α : Type} {l : List α} {r : α → List Int} {m : Nat} (h : ∀ x ∈ l, (r x).length ≤ m) : (l.flatMap r).length ≤ m * l.length := by
  induction l with
  | nil => simp
  | cons x l ih =>
    have h1 := h x (by simp)
    have h2 := ih (fun y hy => h y (by simp [hy]))
    rw [List.flatMap_cons, List.length_append, List.length_cons, Nat.mul_succ]; omega
theorem row_isN {c : Cf} (h : okC c) : c.row.all isN = true := by
  obtain ⟨h1, h2, h3, h4⟩ := h
  unfold Cf.row rowP rowO
  rw [List.all_append]
  simp only [List.all_cons, Bool.and_eq_true]
  refine ⟨⟨isN_of (by omega) (by omega), flat_all fun p hp => ?_⟩, isN_of (by omega) (by omega), flat_all h4⟩
  obtain ⟨q1, q2, q3, q4⟩ := h3 p hp
  unfold Pt.row
  simp only [List.all_cons, Bool.and_eq_true]
  exact ⟨q1, q2, isN_of (by omega) (by omega), flat_all q4⟩
theorem row_len {c : Cf} (h : okC c) : c.row.length ≤ 190 := by
  obtain ⟨h1, h2, h3, h4⟩ := h
  have g1 : (c.ps.flatMap Pt.row).length ≤ 35 * c.ps.length := flat_len fun p hp => by
    obtain ⟨q1, q2, q3, q4⟩ := h3 p hp
    have : (p.ts.flatMap Tk.row).length ≤ 8 * p.ts.length := flat_len fun t ht => Nat.le_refl _
    unfold Pt.row
    simp only [List.length_cons]
    omega
  have g2 : (c.os.flatMap Po.row).length ≤ 6 * c.os.length := flat_len fun o ho => Nat.le_refl _
  unfold Cf.row rowP rowO
  simp only [List.length_append, List.length_cons]
  omega
theorem fin_of_zero {t : List Int} : fin (t, 0) = if t.length > 0 then 4 else 0 := by unfold fin en; simp only; split <;> simp
/-- what has bytes is read of them as it was -/
theorem parse_row {c : Cf} (h : may c = true) : parse (nums c.row) = (c, 0) := by
  have := (ex_c (may_ok h)).put []
  rw [List.append_nil] at this
  unfold parse
  rw [this]
  simp [fin_of_zero, h]
theorem parse_cut {c : Cf} (h : may c = true) {k : Nat} (hk : k < (nums c.row).length) : parse ((nums c.row).take k) = (c0, 3) := by
  have := (ex_c (may_ok h)).cut k hk
  unfold parse
  rw [this]
  rfl
theorem parse_more {c : Cf} (h : may c = true) (x : Int) : parse (nums c.row ++ [x]) = (c0, 4) := by
  have := (ex_c (may_ok h)).put [x]
  unfold parse
  rw [this]
  rfl

/-! what can be read is written so -/
/-- what f reads with no error has just these bytes -/
def Ag {α : Type} (f : St → α × St) (r : α → List Int) : Prop := ∀ xs, Bys xs → (f (xs, 0)).2.2 = 0 → xs = nums (r (f (xs, 0)).1) ++ (f (xs, 0)).2.1
theorem rd_ag (m : Int) : Ag (rd m) (fun n => [n]) := by
  intro xs hb h
  rw [rd_zero] at h ⊢
  rcases cutN_cases xs m with ⟨e, h1, h2⟩ | ⟨h1, _, h2⟩
  · rw [h2] at h; simp at h; omega
  · rw [h2]
    have := (num_cutAny hb h1).1
    rw [nums_one]
    exact this
theorem rd_nonneg (m : Int) (s : St) (hb : Bys s.1) : 0 ≤ (rd m s).1 := by
  obtain ⟨xs, e⟩ := s
  by_cases h : e = 0
  · subst h
    rw [rd_zero]
    rcases cutN_cases xs m with ⟨e, h1, h2⟩ | ⟨h1, _, h2⟩
    · rw [h2]; exact Int.le_refl _
    · rw [h2]; exact (isN_yes (num_cutAny hb h1).2).1
  · rw [rd_stick m _ h]; exact Int.le_refl _
theorem rd_most (m : Int) (hm : 0 ≤ m) (s : St) : (rd m s).1 ≤ m := by
  obtain ⟨xs, e⟩ := s
  by_cases h : e = 0
  · subst h
    rw [rd_zero]
    rcases cutN_cases xs m with ⟨e, h1, h2⟩ | ⟨h1, h3, h2⟩
    · rw [h2]; exact hm
    · rw [h2]; exact h3
  · rw [rd_stick m _ h]; exact hm
theorem first_ok {α : Type} {g : St → α × St} (gs : ∀ s, s.2 ≠ 0 → (g s).2 = s) {s : St} (h : (g s).2.2 = 0) : s.2 = 0 := by
  by_cases h1 : s.2 = 0
  · exact h1
  · rw [gs s h1] at h; exact h
theorem ag_seq {α β γ : Type} {f : St → α × St} {g : α → St → β × St} {h : St → γ × St} {q : α → List Int} {r : β → List Int} {u : γ → List Int} (hf : Ag f q) (fb : ∀ s, Bys s.1 → Bys (f s).2.1)
    (hg : ∀ a, Ag (g a) r) (gs : ∀ a s, s.2 ≠ 0 → (g a s).2 = s) (hh : ∀ s, (h s).2 = (g (f s).1 (f s).2).2) (hv : ∀ s, Bys s.1 → u (h s).1 = q (f s).1 ++ r (g (f s).1 (f s).2).1) : Ag h u := by
  intro xs hb he
  rw [hh] at he
  have h0 := first_ok (gs _) he
  have h1 := hf xs hb h0
  rcases hq : f (xs, 0) with ⟨a, ys, e⟩
  rw [hq] at h0 h1 he
  simp only at h0
  subst h0
  have hb2 := fb (xs, 0) hb
  rw [hq] at hb2
  have h2 := hg a ys hb2 he
  rw [hh, hv _ hb, hq, nums_append, List.append_assoc, ← h2]
  exact h1
theorem ag_many {α : Type} {f : St → α × St} (gf : Good f) {r : α → List Int} (h : Ag f r) : ∀ k, Ag (many f k) (fun l => l.flatMap r)
  | 0 => fun xs _ _ => rfl
  | k + 1 => ag_seq (g := fun _ => many f k) (r := fun l => l.flatMap r) h gf.bys (fun _ => ag_many gf h k) (fun _ s hs => (gf.many k).stick s hs) (fun s => rfl) (fun s _ => by
      show List.flatMap r (_ :: _) = _
      rw [List.flatMap_cons])
theorem ag_row (m : Nat) : Ag (rowN m) id := by
  intro xs hb h
  have := ag_many (rd_good MX) (rd_ag MX) m xs hb h
  have e : ∀ l : List Int, l.flatMap (fun n => [n]) = l := by
    intro l
    induction l with
    | nil => rfl
    | cons x l ih => rw [List.flatMap_cons, ih]; rfl
  simp only [e] at this
  exact this
theorem ag_count {α : Type} {f : St → α × St} (gf : Good f) {r : α → List Int} (h : Ag f r) (m : Int) : Ag (fun s => many f (rd m s).1.toNat (rd m s).2) (fun l => (l.length : Int) :: l.flatMap r) := by
  refine ag_seq (f := rd m) (g := fun n => many f n.toNat) (r := fun l => l.flatMap r) (rd_ag m) (rd_good m).bys (fun n => ag_many gf h _) (fun n s hs => (gf.many _).stick s hs) (fun s => rfl) (fun s hb => ?_)
  show ((many f _ _).1.length : Int) :: _ = _
  rw [many_length]
  have := rd_nonneg m s hb
  rw [Int.toNat_of_nonneg this]
  rfl
theorem list8 {l : List Int} (h : l.length = 8) : (Tk.of l).row = l := by
  match l, h with
  | [a, b, c, d, e, f, g, i], _ => rfl
theorem list6 {l : List Int} (h : l.length = 6) : (Po.of l).row = l := by
  match l, h with
  | [a, b, c, d, e, f], _ => rfl
theorem list2 {l : List Int} (h : l.length = 2) : [l.getD 0 0, l.getD 1 0] = l := by
  match l, h with
  | [a, b], _ => rfl
theorem ag_tk : Ag rdTk Tk.row := by
  intro xs hb h
  have := ag_row 8 xs hb h
  have e := list8 (rowN_length 8 (xs, 0))
  unfold rdTk
  simp only
  rw [e]
  exact this
theorem ag_po : Ag rdPo Po.row := by
  intro xs hb h
  have := ag_row 6 xs hb h
  have e := list6 (rowN_length 6 (xs, 0))
  unfold rdPo
  simp only
  rw [e]
  exact this
theorem ag_pt : Ag rdPt Pt.row := by
  refine ag_seq (f := rowN 2) (g := fun _ => rdTs) (q := id) (r := fun l => (l.length : Int) :: l.flatMap Tk.row) (ag_row 2) (row_good 2).bys (fun _ => ag_count rdTk_good ag_tk 4) (fun _ s hs => rdTs_good.stick s hs) (fun s => rfl) (fun s hb => ?_)
  show _ :: _ :: _ = (rowN 2 s).1 ++ _
  rw [← list2 (rowN_length 2 s)]
  rfl
theorem ag_c : Ag rdC Cf.row :=
  ag_seq (f := rdPs) (g := fun _ => rdOs) (q := rowP) (r := rowO) (ag_count rdPt_good ag_pt 4) rdPs_good.bys (fun _ => ag_count rdPo_good ag_po 8) (fun _ s hs => rdOs_good.stick s hs) (fun s => rfl) (fun s hb => rfl)
theorem row_parse {xs : List Int} (hb : Bys xs) (h : (parse xs).2 = 0) : nums (parse xs).1.row = xs := by
  have h1 : fin (rdC (xs, 0)).2 = 0 := by
    by_cases hc : fin (rdC (xs, 0)).2 = 0
    · exact hc
    · unfold parse at h; rw [if_pos hc] at h; exact h
  have h2 : (parse xs).1 = (rdC (xs, 0)).1 := by
    unfold parse at h ⊢
    rw [if_neg (by simp [h1])] at h
    rw [if_neg (by simp [h1])]
    split
    · rfl
    · rename_i h3; rw [if_neg h3] at h; cases h
  have h3 : (rdC (xs, 0)).2 = ([], 0) := by
    have he := (rdC_good.err (xs, 0) (fun h => absurd rfl h) (by simp)).2
    generalize (rdC (xs, 0)).2 = q at he h1 ⊢
    obtain ⟨ys, e⟩ := q
    unfold fin en at h1
    simp at he
    simp only at h1
    by_cases hy : ys.length > 0
    · rw [if_pos hy] at h1; simp at h1
    · rw [if_neg hy] at h1
      have : ys = [] := List.eq_nil_of_length_eq_zero (by omega)
      subst this
      split at h1
      · cases h1
      · rw [h1]
  have h4 := ag_c xs hb (by rw [h3])
  rw [h3, List.append_nil] at h4
  rw [h2]
  exact h4.symm
end Go.Proofs.Ythbhkcofhhkcoaa.Cn
