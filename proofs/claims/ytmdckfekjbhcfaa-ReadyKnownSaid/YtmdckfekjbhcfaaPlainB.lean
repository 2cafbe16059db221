/- Plain: the entries of a rank, sorted, are its map in order. -/
import Derived.Test.YtmdckfekjbhcfaaPlainA
namespace Go.Proofs.Ytmdckfekjbhcfaa.Rk
set_option linter.unusedVariables false

theorem pairwise_and {l : List En} (h : l.Pairwise le) (k : l.Pairwise (· ≠ ·)) : l.Pairwise lt := by
  induction l with
  | nil => exact List.Pairwise.nil
  | cons x l ih =>
    have h1 := List.pairwise_cons.1 h
    have k1 := List.pairwise_cons.1 k
    exact List.pairwise_cons.2 ⟨fun y hy => lt_of_le_ne (h1.1 y hy) (k1.1 y hy), ih h1.2 k1.2⟩
theorem ord_of_sort {f : Nat → En} {n : Nat} {pl : Int → Int} {m : Mp} (h : Rep f n pl m) {P : List En} (hp : P.Perm ((List.range n).map f)) (hs : P.Pairwise le) : Ord m P ∧ P.length = n := by
  have hnd : ((List.range n).map f).Nodup := by
    unfold List.Nodup
    rw [List.pairwise_map]
    refine List.Pairwise.imp_of_mem ?_ List.nodup_range
    intro a b ha hb hab e
    exact hab (h.inj (List.mem_range.1 ha) (List.mem_range.1 hb) (by rw [e]))
  have hnp : P.Nodup := hp.nodup_iff.2 hnd
  refine ⟨⟨pairwise_and hs hnp, fun id k => ?_⟩, by rw [hp.length_eq]; simp⟩
  rw [hp.mem_iff, List.mem_map]
  constructor
  · rintro ⟨i, hi, e⟩
    have := (h.ent i (List.mem_range.1 hi)).2.2.1
    rw [e] at this
    exact this
  · intro hm
    obtain ⟨_, _, i, hi, e⟩ := h.has id k hm
    exact ⟨i, List.mem_range.2 hi, e⟩

end Go.Proofs.Ytmdckfekjbhcfaa.Rk
