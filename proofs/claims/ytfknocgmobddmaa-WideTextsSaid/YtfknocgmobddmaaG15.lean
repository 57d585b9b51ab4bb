/- What the reference's Text keeps from round to round: what is left of the number, and the digits that are written. -/
import Derived.Test.YtfknocgmobddmaaX3
import Derived.Test.YtfknocgmobddmaaG2
import Derived.Test.YtfknocgmobddmaaG14
namespace Go.Proofs.Ytfknocgmobddmaa
open Go.RowKit Go.Proofs.Kit
/-- Where the reference's Text stands: what is left of N, and the digits that are written, the last one first. -/
def Tx (N V : Nat) (pre : List (Fin 10)) : Prop := (V = 0 ∧ ((0 < N ∧ pre = digs N) ∨ (N = 0 ∧ pre = []))) ∨ (0 < V ∧ pre ++ digs V = digs N)
theorem Tx.start (N : Nat) : Tx N N [] := by
  by_cases h : N = 0
  · exact .inl ⟨h, .inr ⟨h, rfl⟩⟩
  · exact .inr ⟨by omega, rfl⟩
theorem digs_pos (n : Nat) : 0 < (digs n).length := by rw [digs]; simp
theorem Tx.step {N V : Nat} {pre : List (Fin 10)} (h : Tx N V pre) (hV : V ≠ 0) : Tx N (V / 10) (pre ++ [⟨V % 10, Nat.mod_lt _ (by decide)⟩]) ∧ pre.length < (digs N).length := by
  rcases h with ⟨h, _⟩ | ⟨h, he⟩
  · exact absurd h hV
  · refine ⟨?_, by rw [← he, List.length_append]; have := digs_pos V; omega⟩
    by_cases hz : V / 10 = 0
    · refine .inl ⟨hz, .inl ⟨?_, ?_⟩⟩
      · apply Classical.byContradiction
        intro hN
        have hN0 : N = 0 := by omega
        subst hN0
        have e1 : digs 0 = [0] := by rw [digs_last (by decide)]; rfl
        rw [e1, digs_last hz] at he
        have hp : pre = [] := by
          have := congrArg List.length he
          simp at this
          exact this
        subst hp
        have h9 : V < 10 := by omega
        simp at he
        omega
      · rw [← he, digs_last hz]
    · exact .inr ⟨by omega, by rw [← he, digs_more hz]; simp⟩
def strLen : Value → Nat
  | .string s => s.size
  | _ => 0
end Go.Proofs.Ytfknocgmobddmaa
