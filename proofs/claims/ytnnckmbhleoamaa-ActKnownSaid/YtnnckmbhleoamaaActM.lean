/- Acts that may be, made out of any. -/
import Derived.Test.YtnnckmbhleoamaaActW
namespace Go.Proofs.Ytnnckmbhleoamaa
open Go.RowKit Ac
set_option linter.unusedVariables false

/-- acts that may be are answered, in a row of the call's own -/
def MadeP (w : World) (e : Ending) (w' : World) : Prop := ∃ (a : Option Addr) (c : Nat) (l : List Ak), e = .returned (.slice a l.length c) ∧ NA w' w.heap.size (.slice a l.length c) l ∧ Gd l ∧ Below w.heap.size w w'
theorem bring8 (a : Int) : bring a 8 = 0 ∨ bring a 8 = 1 ∨ bring a 8 = 2 ∨ bring a 8 = 3 ∨ bring a 8 = 4 ∨ bring a 8 = 5 ∨ bring a 8 = 6 ∨ bring a 8 = 7 := by
  have := bring_bd a 8 (by decide)
  omega
/-- one act more, laid in a block and appended -/
theorem app_act {w wr W : World} {v : Value} {l : List Ak} (h : NA wr w.heap.size v l) (hB : Below w.heap.size w wr) (hw : Below wr.heap.size wr W) (hn : l.length < 32) (k n : Int) (s : ByteArray) :
    ∃ a c w', (Builtin.append_ #[22, 22] 22 #[v, .slice (some ⟨W.heap.size, 0, none⟩) 1 1]).run Try.prog (W.alloc (.cells #[.int .i64 k, .int .i64 n, .string s] 33)) = .ok (.slice a (l.length + 1) c) w' ∧ NA w' w.heap.size (.slice a (l ++ [(⟨k, n, s⟩ : Ak)]).length c) (l ++ [⟨k, n, s⟩]) ∧ Below w.heap.size w w' := by
  have hs := as_lit (w := W.alloc (.cells #[.int .i64 k, .int .i64 n, .string s] 33)) (g := W.heap.size) (l := ([⟨k, n, s⟩] : List Ak)) (heap_alloc_new W _) (show 1 ≤ maxLen by decide)
  have hW : Below w.heap.size w (W.alloc (.cells #[.int .i64 k, .int .i64 n, .string s] 33)) := (hB.trans (hw.mono hB.size)).alloc (Nat.le_trans hB.size hw.size) _
  obtain ⟨a, c, w', hrun, hown, hb, _⟩ := app_acts ((h.below hw).below (below_al W _)) hs hW.size (by simp; omega) 22
  refine ⟨a, c, w', ?_, hown, hW.trans hb⟩
  rw [List.length_append] at hrun
  exact hrun
theorem all_snoc {l : List Ak} {x : Ak} (h : ∀ y ∈ l, may y) (hx : may x) : ∀ y ∈ l ++ [x], may y := fun y hy => by
  rcases List.mem_append.1 hy with h1 | h1
  · exact h y h1
  · rw [List.mem_singleton.1 h1]; exact hx
theorem cut_size (s : ByteArray) (n : Nat) (h : n ≤ 16) : ((s.extract 0 n).size : Int) ≤ 16 := by
  rw [ByteArray.size_extract]
  omega
set_option maxRecDepth 100000 in
set_option maxHeartbeats 8000000 in
theorem made_any {w : World} {u : Value} {l0 : List Ak} (hu : AS w u l0) : Calls Try.prog 26 #[u] w (MadeP w) := by
  obtain ⟨a, cap, rfl, h1, h2⟩ := hu.slice
  obtain ⟨n, hn⟩ : ∃ n, n = l0.length := ⟨_, rfl⟩
  rw [← hn] at hu h1 ⊢
  have hmx : n ≤ 9223372036854775807 := by unfold maxLen at h2; omega
  have HU := Lib.hid hu
  clear hu hn h2
  go_enter Try.func26, Try.ntmps26
  go_wp2_with fail
  go_loopw [3, 4] (fun o i wr => ∃ k : Nat, k ≤ n ∧ k ≤ 32 ∧ i = .int .i64 k ∧ ∃ l : List Ak, Hid (l.length = k) ∧ Hid (∀ x ∈ l, may x) ∧ Hid (NA wr w.heap.size o l) ∧ Hid (Below w.heap.size w wr)) (fun _ i _ => n - (intOf i).toNat)
  case atStart => exact ⟨0, Nat.zero_le _, Nat.zero_le _, rfl, [], rfl, Lib.hid (fun x hx => by cases hx), NA.nil _ _, Below.refl _ _⟩
  case round =>
    rename_i o _
    obtain ⟨k, hk, hk32, rfl, l, HL, HM, HO, HB⟩ := hrel
    by_cases hlt : k < n
    · by_cases hlt2 : k < 32
      · obtain ⟨b, off, rfl, d0, d1, d2⟩ := (HU.out.below HB.out).at hlt
        have hd1 : decide ((k : Int) < 32) = true := by simp; omega
        generalize (l0.getD k o0).k = yk at *
        generalize (l0.getD k o0).n = yn at *
        generalize (l0.getD k o0).s = ys at *
        have HB8 := Lib.hid (fun w => bring_any yk 8 w (by decide) (by decide))
        have da1 : ∀ o, (wr.alloc o).cell? ⟨b, off + k * 3 + 1, none⟩ = some (.int .i64 yn) := fun o => (World.cell?_alloc_lt wr o _ (lt_of_cell d1)).trans d1
        have da2 : ∀ o, (wr.alloc o).cell? ⟨b, off + k * 3 + 2, none⟩ = some (.string ys) := fun o => (World.cell?_alloc_lt wr o _ (lt_of_cell d2)).trans d2
        clear d1 d2
        have HL32 := Lib.hid (show l.length < 32 by rw [HL.out]; exact hlt2)
        rcases bring8 yk with hy | hy | hy | hy | hy | hy | hy | hy
        · rw [hy] at HB8
          clear hy
          obtain ⟨z, hz0, hz1, hz⟩ : ∃ z : Int, 0 ≤ z ∧ z < 64 ∧ bring yn 64 = z := ⟨_, (bring_bd yn 64 (by decide)).1, (bring_bd yn 64 (by decide)).2, rfl⟩
          have HBN := Lib.hid (fun w => bring_any yn 64 w (by decide) (by decide))
          rw [hz] at HBN
          clear hz
          obtain ⟨va, vc, w5, hrun, hown, hb5⟩ := app_act (W := wr.alloc (.cells #[.int .i64 1, .int .i64 (1 + z), .string ⟨#[]⟩] 33)) HO.out HB.out (below_al wr (.cells #[.int .i64 1, .int .i64 (1 + z), .string ⟨#[]⟩] 33)) HL32.out 1 (1 + z) ⟨#[]⟩
          rw [HL.out] at hrun
          simp only [World.size_alloc] at hrun
          have HRUN := Lib.hid hrun
          have HOW := Lib.hid hown
          have HB5 := Lib.hid hb5
          have HM2 := Lib.hid (all_snoc HM.out (show may ⟨1, (1 + z), ⟨#[]⟩⟩ from may_of (a := 1) (b := 64) (c := 0) rfl (by simp only; omega) (by simp only; omega) (Int.le_refl _)))
          clear hrun hown hb5 HM HO HB HL32
          go_wp2_with fail
          refine (HB8.out _).mono ?_
          rintro e w1 ⟨rfl, rfl⟩
          go_wp2_with fail
          refine (HBN.out _).mono ?_
          rintro e w1 ⟨rfl, rfl⟩
          go_wp2_with (at_builtin; refine wpList_append_eq rfl (.tmp 65) (.tmp 67) 22 22 rfl _ _ _ _ rfl rfl HRUN.out ?_)
          go_roundw
          case rel => exact ⟨k + 1, by omega, by omega, by go_num, l ++ [⟨1, (1 + z), ⟨#[]⟩⟩], Lib.hid (by rw [List.length_append, HL.out]; rfl), HM2, (by have h := HOW.out; rw [List.length_append, HL.out] at h; exact h), HB5⟩
          case measure => simp [intOf]; omega
        · rw [hy] at HB8
          clear hy
          obtain ⟨z, hz0, hz1, hz⟩ : ∃ z : Int, 0 ≤ z ∧ z < 8 ∧ bring yn 8 = z := ⟨_, (bring_bd yn 8 (by decide)).1, (bring_bd yn 8 (by decide)).2, rfl⟩
          have HBN := Lib.hid (fun w => bring_any yn 8 w (by decide) (by decide))
          rw [hz] at HBN
          clear hz
          obtain ⟨va, vc, w5, hrun, hown, hb5⟩ := app_act (W := wr.alloc (.cells #[.int .i64 2, .int .i64 z, .string ⟨#[]⟩] 33)) HO.out HB.out (below_al wr (.cells #[.int .i64 2, .int .i64 z, .string ⟨#[]⟩] 33)) HL32.out 2 z ⟨#[]⟩
          rw [HL.out] at hrun
          simp only [World.size_alloc] at hrun
          have HRUN := Lib.hid hrun
          have HOW := Lib.hid hown
          have HB5 := Lib.hid hb5
          have HM2 := Lib.hid (all_snoc HM.out (show may ⟨2, z, ⟨#[]⟩⟩ from may_of (a := 0) (b := 7) (c := 0) rfl hz0 (by simp only; omega) (Int.le_refl _)))
          clear hrun hown hb5 HM HO HB HL32
          go_wp2_with fail
          refine (HB8.out _).mono ?_
          rintro e w1 ⟨rfl, rfl⟩
          go_wp2_with fail
          refine (HBN.out _).mono ?_
          rintro e w1 ⟨rfl, rfl⟩
          go_wp2_with (at_builtin; refine wpList_append_eq rfl (.tmp 65) (.tmp 67) 22 22 rfl _ _ _ _ rfl rfl HRUN.out ?_)
          go_roundw
          case rel => exact ⟨k + 1, by omega, by omega, by go_num, l ++ [⟨2, z, ⟨#[]⟩⟩], Lib.hid (by rw [List.length_append, HL.out]; rfl), HM2, (by have h := HOW.out; rw [List.length_append, HL.out] at h; exact h), HB5⟩
          case measure => simp [intOf]; omega
        · rw [hy] at HB8
          clear hy
          obtain ⟨va, vc, w5, hrun, hown, hb5⟩ := app_act (W := wr.alloc (.cells #[.int .i64 3, .int .i64 0, .string ⟨#[]⟩] 33)) HO.out HB.out (below_al wr (.cells #[.int .i64 3, .int .i64 0, .string ⟨#[]⟩] 33)) HL32.out 3 0 ⟨#[]⟩
          rw [HL.out] at hrun
          simp only [World.size_alloc] at hrun
          have HRUN := Lib.hid hrun
          have HOW := Lib.hid hown
          have HB5 := Lib.hid hb5
          have HM2 := Lib.hid (all_snoc HM.out (show may ⟨3, 0, ⟨#[]⟩⟩ from may_of (a := 0) (b := 0) (c := 0) rfl (Int.le_refl _) (Int.le_refl _) (Int.le_refl _)))
          clear hrun hown hb5 HM HO HB HL32
          go_wp2_with fail
          refine (HB8.out _).mono ?_
          rintro e w1 ⟨rfl, rfl⟩
          go_wp2_with (at_builtin; refine wpList_append_eq rfl (.tmp 65) (.tmp 67) 22 22 rfl _ _ _ _ rfl rfl HRUN.out ?_)
          go_roundw
          case rel => exact ⟨k + 1, by omega, by omega, by go_num, l ++ [⟨3, 0, ⟨#[]⟩⟩], Lib.hid (by rw [List.length_append, HL.out]; rfl), HM2, (by have h := HOW.out; rw [List.length_append, HL.out] at h; exact h), HB5⟩
          case measure => simp [intOf]; omega
        · rw [hy] at HB8
          clear hy
          obtain ⟨va, vc, w5, hrun, hown, hb5⟩ := app_act (W := wr.alloc (.cells #[.int .i64 4, .int .i64 0, .string ⟨#[]⟩] 33)) HO.out HB.out (below_al wr (.cells #[.int .i64 4, .int .i64 0, .string ⟨#[]⟩] 33)) HL32.out 4 0 ⟨#[]⟩
          rw [HL.out] at hrun
          simp only [World.size_alloc] at hrun
          have HRUN := Lib.hid hrun
          have HOW := Lib.hid hown
          have HB5 := Lib.hid hb5
          have HM2 := Lib.hid (all_snoc HM.out (show may ⟨4, 0, ⟨#[]⟩⟩ from may_of (a := 0) (b := 0) (c := 0) rfl (Int.le_refl _) (Int.le_refl _) (Int.le_refl _)))
          clear hrun hown hb5 HM HO HB HL32
          go_wp2_with fail
          refine (HB8.out _).mono ?_
          rintro e w1 ⟨rfl, rfl⟩
          go_wp2_with (at_builtin; refine wpList_append_eq rfl (.tmp 65) (.tmp 67) 22 22 rfl _ _ _ _ rfl rfl HRUN.out ?_)
          go_roundw
          case rel => exact ⟨k + 1, by omega, by omega, by go_num, l ++ [⟨4, 0, ⟨#[]⟩⟩], Lib.hid (by rw [List.length_append, HL.out]; rfl), HM2, (by have h := HOW.out; rw [List.length_append, HL.out] at h; exact h), HB5⟩
          case measure => simp [intOf]; omega
        · rw [hy] at HB8
          clear hy
          obtain ⟨va, vc, w5, hrun, hown, hb5⟩ := app_act (W := wr.alloc (.cells #[.int .i64 5, .int .i64 0, .string ⟨#[]⟩] 33)) HO.out HB.out (below_al wr (.cells #[.int .i64 5, .int .i64 0, .string ⟨#[]⟩] 33)) HL32.out 5 0 ⟨#[]⟩
          rw [HL.out] at hrun
          simp only [World.size_alloc] at hrun
          have HRUN := Lib.hid hrun
          have HOW := Lib.hid hown
          have HB5 := Lib.hid hb5
          have HM2 := Lib.hid (all_snoc HM.out (show may ⟨5, 0, ⟨#[]⟩⟩ from may_of (a := 0) (b := 0) (c := 0) rfl (Int.le_refl _) (Int.le_refl _) (Int.le_refl _)))
          clear hrun hown hb5 HM HO HB HL32
          go_wp2_with fail
          refine (HB8.out _).mono ?_
          rintro e w1 ⟨rfl, rfl⟩
          go_wp2_with (at_builtin; refine wpList_append_eq rfl (.tmp 65) (.tmp 67) 22 22 rfl _ _ _ _ rfl rfl HRUN.out ?_)
          go_roundw
          case rel => exact ⟨k + 1, by omega, by omega, by go_num, l ++ [⟨5, 0, ⟨#[]⟩⟩], Lib.hid (by rw [List.length_append, HL.out]; rfl), HM2, (by have h := HOW.out; rw [List.length_append, HL.out] at h; exact h), HB5⟩
          case measure => simp [intOf]; omega
        · rw [hy] at HB8
          clear hy
          obtain ⟨z, hz0, hz1, hz⟩ : ∃ z : Int, 0 ≤ z ∧ z < 8 ∧ bring yn 8 = z := ⟨_, (bring_bd yn 8 (by decide)).1, (bring_bd yn 8 (by decide)).2, rfl⟩
          have HBN := Lib.hid (fun w => bring_any yn 8 w (by decide) (by decide))
          rw [hz] at HBN
          clear hz
          by_cases h16 : (16 : Int) < (ys.size : Int)
          · obtain ⟨va, vc, w5, hrun, hown, hb5⟩ := app_act (W := (wr.alloc (.cells #[.int .i64 6, .int .i64 z, .string (ys.extract 0 16)] 33)).drew) HO.out HB.out (below_drew (below_al wr (.cells #[.int .i64 6, .int .i64 z, .string (ys.extract 0 16)] 33))) HL32.out 6 z (ys.extract 0 16)
            rw [HL.out] at hrun
            simp only [World.size_alloc, World.size_drew] at hrun
            have HRUN := Lib.hid hrun
            have HOW := Lib.hid hown
            have HB5 := Lib.hid hb5
            have HM2 := Lib.hid (all_snoc HM.out (show may ⟨6, z, (ys.extract 0 16)⟩ from may_of (a := 0) (b := 7) (c := 16) rfl hz0 (by simp only; omega) (cut_size ys _ (by omega))))
            clear hrun hown hb5 HM HO HB HL32
            go_wp2_with fail
            refine (HB8.out _).mono ?_
            rintro e w1 ⟨rfl, rfl⟩
            go_wp2_with fail
            refine (HBN.out _).mono ?_
            rintro e w1 ⟨rfl, rfl⟩
            go_wp2_with fail
            go_region
            all_goals
              go_wp2_with (at_builtin; refine wpList_append_eq rfl (.tmp 65) (.tmp 67) 22 22 rfl _ _ _ _ rfl rfl HRUN.out ?_)
              go_roundw
              case rel => exact ⟨k + 1, by omega, by omega, by go_num, l ++ [⟨6, z, (ys.extract 0 16)⟩], Lib.hid (by rw [List.length_append, HL.out]; rfl), HM2, (by have h := HOW.out; rw [List.length_append, HL.out] at h; exact h), HB5⟩
              case measure => simp [intOf]; omega
          · obtain ⟨va, vc, w5, hrun, hown, hb5⟩ := app_act (W := (wr.alloc (.cells #[.int .i64 6, .int .i64 z, .string ys] 33)).drew) HO.out HB.out (below_drew (below_al wr (.cells #[.int .i64 6, .int .i64 z, .string ys] 33))) HL32.out 6 z ys
            rw [HL.out] at hrun
            simp only [World.size_alloc, World.size_drew] at hrun
            have HRUN := Lib.hid hrun
            have HOW := Lib.hid hown
            have HB5 := Lib.hid hb5
            have HM2 := Lib.hid (all_snoc HM.out (show may ⟨6, z, ys⟩ from may_of (a := 0) (b := 7) (c := 16) rfl hz0 (by simp only; omega) (by simp only; omega)))
            clear hrun hown hb5 HM HO HB HL32
            go_wp2_with fail
            refine (HB8.out _).mono ?_
            rintro e w1 ⟨rfl, rfl⟩
            go_wp2_with fail
            refine (HBN.out _).mono ?_
            rintro e w1 ⟨rfl, rfl⟩
            go_wp2_with fail
            go_region
            all_goals
              go_wp2_with (at_builtin; refine wpList_append_eq rfl (.tmp 65) (.tmp 67) 22 22 rfl _ _ _ _ rfl rfl HRUN.out ?_)
              go_roundw
              case rel => exact ⟨k + 1, by omega, by omega, by go_num, l ++ [⟨6, z, ys⟩], Lib.hid (by rw [List.length_append, HL.out]; rfl), HM2, (by have h := HOW.out; rw [List.length_append, HL.out] at h; exact h), HB5⟩
              case measure => simp [intOf]; omega
        · rw [hy] at HB8
          clear hy
          obtain ⟨z, hz0, hz1, hz⟩ : ∃ z : Int, 0 ≤ z ∧ z < 8 ∧ bring yn 8 = z := ⟨_, (bring_bd yn 8 (by decide)).1, (bring_bd yn 8 (by decide)).2, rfl⟩
          have HBN := Lib.hid (fun w => bring_any yn 8 w (by decide) (by decide))
          rw [hz] at HBN
          clear hz
          obtain ⟨va, vc, w5, hrun, hown, hb5⟩ := app_act (W := wr.alloc (.cells #[.int .i64 7, .int .i64 z, .string ⟨#[]⟩] 33)) HO.out HB.out (below_al wr (.cells #[.int .i64 7, .int .i64 z, .string ⟨#[]⟩] 33)) HL32.out 7 z ⟨#[]⟩
          rw [HL.out] at hrun
          simp only [World.size_alloc] at hrun
          have HRUN := Lib.hid hrun
          have HOW := Lib.hid hown
          have HB5 := Lib.hid hb5
          have HM2 := Lib.hid (all_snoc HM.out (show may ⟨7, z, ⟨#[]⟩⟩ from may_of (a := 0) (b := 7) (c := 0) rfl hz0 (by simp only; omega) (Int.le_refl _)))
          clear hrun hown hb5 HM HO HB HL32
          go_wp2_with fail
          refine (HB8.out _).mono ?_
          rintro e w1 ⟨rfl, rfl⟩
          go_wp2_with fail
          refine (HBN.out _).mono ?_
          rintro e w1 ⟨rfl, rfl⟩
          go_wp2_with (at_builtin; refine wpList_append_eq rfl (.tmp 65) (.tmp 67) 22 22 rfl _ _ _ _ rfl rfl HRUN.out ?_)
          go_roundw
          case rel => exact ⟨k + 1, by omega, by omega, by go_num, l ++ [⟨7, z, ⟨#[]⟩⟩], Lib.hid (by rw [List.length_append, HL.out]; rfl), HM2, (by have h := HOW.out; rw [List.length_append, HL.out] at h; exact h), HB5⟩
          case measure => simp [intOf]; omega
        · rw [hy] at HB8
          clear hy
          obtain ⟨z, hz0, hz1, hz⟩ : ∃ z : Int, 0 ≤ z ∧ z < 64 ∧ bring yn 64 = z := ⟨_, (bring_bd yn 64 (by decide)).1, (bring_bd yn 64 (by decide)).2, rfl⟩
          have HBN := Lib.hid (fun w => bring_any yn 64 w (by decide) (by decide))
          rw [hz] at HBN
          clear hz
          obtain ⟨va, vc, w5, hrun, hown, hb5⟩ := app_act (W := wr.alloc (.cells #[.int .i64 8, .int .i64 (1 + z), .string ⟨#[]⟩] 33)) HO.out HB.out (below_al wr (.cells #[.int .i64 8, .int .i64 (1 + z), .string ⟨#[]⟩] 33)) HL32.out 8 (1 + z) ⟨#[]⟩
          rw [HL.out] at hrun
          simp only [World.size_alloc] at hrun
          have HRUN := Lib.hid hrun
          have HOW := Lib.hid hown
          have HB5 := Lib.hid hb5
          have HM2 := Lib.hid (all_snoc HM.out (show may ⟨8, (1 + z), ⟨#[]⟩⟩ from may_of (a := 1) (b := 64) (c := 0) rfl (by simp only; omega) (by simp only; omega) (Int.le_refl _)))
          clear hrun hown hb5 HM HO HB HL32
          go_wp2_with fail
          refine (HB8.out _).mono ?_
          rintro e w1 ⟨rfl, rfl⟩
          go_wp2_with fail
          refine (HBN.out _).mono ?_
          rintro e w1 ⟨rfl, rfl⟩
          go_wp2_with (at_builtin; refine wpList_append_eq rfl (.tmp 65) (.tmp 67) 22 22 rfl _ _ _ _ rfl rfl HRUN.out ?_)
          go_roundw
          case rel => exact ⟨k + 1, by omega, by omega, by go_num, l ++ [⟨8, (1 + z), ⟨#[]⟩⟩], Lib.hid (by rw [List.length_append, HL.out]; rfl), HM2, (by have h := HOW.out; rw [List.length_append, HL.out] at h; exact h), HB5⟩
          case measure => simp [intOf]; omega
      · obtain rfl : k = 32 := by omega
        have HE := Lib.hid (show Gd l from ⟨by rw [HL.out]; exact Nat.le_refl _, HM.out⟩)
        obtain ⟨oa, oc, ho⟩ := HO.out.form
        rw [HL.out] at ho
        subst ho
        go_wp2_with fail
        go_ret
        exact ⟨oa, oc, l, by rw [HL.out]; rfl, by rw [HL.out]; exact HO.out, HE.out, HB.out⟩
    · obtain rfl : k = n := by omega
      have HE := Lib.hid (show Gd l from ⟨by rw [HL.out]; exact hk32, HM.out⟩)
      obtain ⟨oa, oc, ho⟩ := HO.out.form
      rw [HL.out] at ho
      subst ho
      go_wp2_with fail
      go_ret
      exact ⟨oa, oc, l, by rw [HL.out]; rfl, by rw [HL.out]; exact HO.out, HE.out, HB.out⟩
end Go.Proofs.Ytnnckmbhleoamaa
