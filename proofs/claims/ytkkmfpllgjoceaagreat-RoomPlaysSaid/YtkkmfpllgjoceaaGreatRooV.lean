/- All that is asked of the program's room. -/
import Derived.Test.YtkkmfpllgjoceaaGreatRooJ
namespace Go.Proofs.YtkkmfpllgjoceaaGreat.Ro
open Go.RowKit Go.Sort Ac Jo
set_option linter.unusedVariables false
set_option maxRecDepth 100000

/-- the program's room -/
def Q0 : Rprg where
  J := JJ
  lt := by
    rintro w rb S s ⟨m, h, hp, hS⟩ k hk
    exact h.lt k ((hS k).1 hk)
  keep := by
    rintro w w' rb S s ⟨m, h, hp, hS⟩ q
    exact ⟨m, h.keep fun k hk => q k ((hS k).2 hk), hp, hS⟩
  did := by rintro w rb S s ⟨m, h, hp, hS⟩ hi t; exact did_any h hp hS hi t
  run := by rintro w rb S s ⟨m, h, hp, hS⟩ hi t; exact run_any h hp hS hi t
  lock := by rintro w rb S s ⟨m, h, hp, hS⟩ hi t r; exact lock_any h hp hS hi t r
  unlock := by rintro w rb S s ⟨m, h, hp, hS⟩ hi t; exact unl_any h hp hS hi t
  ask := by rintro w rb S s ⟨m, h, hp, hS⟩ hi t; exact ask_any h hp hS hi t
  hold := by rintro w rb S s ⟨m, h, hp, hS⟩ hi t; exact hold_any h hp hS hi t
  give := by rintro w rb S s ⟨m, h, hp, hS⟩ hi t; exact give_any h hp hS hi t
  fin := by rintro w rb S s ⟨m, h, hp, hS⟩ hi t; exact fin_any h hp hS hi t
  rel := by rintro w rb S s v l ⟨m, h, hp, hS⟩ hi hv t now; exact rel_any h hp hS hi hv t now
  who := by rintro w rb S s ⟨m, h, hp, hS⟩ hi; exact who_any h hp hi
  next := by rintro w rb S s ⟨m, h, hp, hS⟩ hi t; exact next_any h hp t
  fault := by rintro w rb S s ⟨m, h, hp, hS⟩ hi t now; exact fault_any h hp hi t now
  sole := by rintro w rb S s ⟨m, h, hp, hS⟩ hi; exact sole_any h hp hi
  jobs := by rintro w rb S s ⟨m, h, hp, hS⟩ hi; exact jobs_any h hi
  dead := by rintro w rb S s ⟨m, h, hp, hS⟩ hi t; exact dead_any h hp hi t
  ear := by rintro w rb S s ⟨m, h, hp, hS⟩ hi t; exact ear_any h hp hi t
  held := by rintro w rb S s ⟨m, h, hp, hS⟩ hi t; exact held_any h hp hi t
  newOk := fun h hn hz => new_ok h hn hz
  newNo := fun h hq => new_no h hq
end Go.Proofs.YtkkmfpllgjoceaaGreat.Ro
