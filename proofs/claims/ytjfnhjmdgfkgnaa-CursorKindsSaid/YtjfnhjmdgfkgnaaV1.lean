/- The cursor's steps: row, mustHave, on, within, leaves. -/
import Derived.Test.YtjfnhjmdgfkgnaaU1
import Derived.Test.YtjfnhjmdgfkgnaaN3
import Derived.Deep.QuietTactic
import Derived.BigQuiet
namespace Go.Proofs.Ytjfnhjmdgfkgnaa
open Go.RowKit Go.Proofs.Kit Go.Shelf

abbrev SC (ob : Option Addr) (m cb : Nat) (ol : Option Addr) (q cl : Nat) (ok : Option Addr) (nk ck : Nat) (d : Int) (o0 : Option Addr) (n0 c0 : Nat) (o1 : Option Addr) (n1 c1 : Nat) (s : Int) : Array Value :=
  #[.slice ob m cb, .slice ol q cl, .slice ok nk ck, .int .i64 d, .slice o0 n0 c0, .slice o1 n1 c1, .int .i64 s]
/-- How a move is left that can't be made. -/
abbrev fault8 (c : Int) : Ending := .panicked [{ v := .iface 157 (.int .i64 c), recovered := false }]

section
variable (ob : Option Addr) (m cb : Nat) (ol : Option Addr) (q cl : Nat) (ok : Option Addr) (nk ck : Nat) (o0 : Option Addr) (n0 c0 : Nat) (o1 : Option Addr) (n1 c1 : Nat) (s : Int) (w : World)
set_option maxRecDepth 100000 in
set_option maxHeartbeats 1000000 in
theorem crow0 : Calls Try.prog 82 #[.agg (SC ob m cb ol q cl ok nk ck 0 o0 n0 c0 o1 n1 c1 s)] w fun e w' => e = .returned (.slice none 0 0) ∧ w' = w.alloc (.cells (SC ob m cb ol q cl ok nk ck 0 o0 n0 c0 o1 n1 c1 s) 111) := by
  go_enter Try.func82, Try.ntmps82
  go_wp2
  go_ret
  exact ⟨rfl, rfl⟩
theorem crow0b : Calls Try.prog 82 #[.agg (SC ob m cb ol q cl ok nk ck 0 o0 n0 c0 o1 n1 c1 s)] w fun e w' => e = .returned (.slice none 0 0) ∧ Below w.heap.size w w' :=
  (crow0 ob m cb ol q cl ok nk ck o0 n0 c0 o1 n1 c1 s w).mono fun _ _ ⟨h, h2⟩ => ⟨h, h2 ▸ (Below.refl _ _).alloc (Nat.le_refl _) _⟩
set_option maxRecDepth 100000 in
set_option maxHeartbeats 1000000 in
theorem crow1 : Calls Try.prog 82 #[.agg (SC ob m cb ol q cl ok nk ck 1 o0 n0 c0 o1 n1 c1 s)] w fun e w' => e = .returned (.slice o0 n0 c0) ∧ w' = w.alloc (.cells (SC ob m cb ol q cl ok nk ck 1 o0 n0 c0 o1 n1 c1 s) 111) := by
  go_enter Try.func82, Try.ntmps82
  go_wp2
  go_ret
  exact ⟨rfl, rfl⟩
theorem crow1b : Calls Try.prog 82 #[.agg (SC ob m cb ol q cl ok nk ck 1 o0 n0 c0 o1 n1 c1 s)] w fun e w' => e = .returned (.slice o0 n0 c0) ∧ Below w.heap.size w w' :=
  (crow1 ob m cb ol q cl ok nk ck o0 n0 c0 o1 n1 c1 s w).mono fun _ _ ⟨h, h2⟩ => ⟨h, h2 ▸ (Below.refl _ _).alloc (Nat.le_refl _) _⟩
set_option maxRecDepth 100000 in
set_option maxHeartbeats 1000000 in
theorem crow2 : Calls Try.prog 82 #[.agg (SC ob m cb ol q cl ok nk ck 2 o0 n0 c0 o1 n1 c1 s)] w fun e w' => e = .returned (.slice o1 n1 c1) ∧ w' = w.alloc (.cells (SC ob m cb ol q cl ok nk ck 2 o0 n0 c0 o1 n1 c1 s) 111) := by
  go_enter Try.func82, Try.ntmps82
  go_wp2
  go_ret
  exact ⟨rfl, rfl⟩
theorem crow2b : Calls Try.prog 82 #[.agg (SC ob m cb ol q cl ok nk ck 2 o0 n0 c0 o1 n1 c1 s)] w fun e w' => e = .returned (.slice o1 n1 c1) ∧ Below w.heap.size w w' :=
  (crow2 ob m cb ol q cl ok nk ck o0 n0 c0 o1 n1 c1 s w).mono fun _ _ ⟨h, h2⟩ => ⟨h, h2 ▸ (Below.refl _ _).alloc (Nat.le_refl _) _⟩
set_option maxRecDepth 100000 in
set_option maxHeartbeats 1000000 in
theorem cmust0 : Calls Try.prog 130 #[.agg (SC ob m cb ol q cl ok nk ck 0 o0 n0 c0 o1 n1 c1 s)] w fun e w' => e = fault8 2 ∧ Below w.heap.size w w' := by
  go_enter Try.func130, Try.ntmps130
  go_wp2
  exact bodyPost_panic rfl ⟨rfl, (Below.refl _ _).alloc (Nat.le_refl _) _⟩
set_option maxRecDepth 100000 in
set_option maxHeartbeats 1000000 in
theorem cmust1 (h : 0 < n0) : Calls Try.prog 130 #[.agg (SC ob m cb ol q cl ok nk ck 1 o0 n0 c0 o1 n1 c1 s)] w fun e w' => e = .returned (.tuple #[]) ∧ Below w.heap.size w w' := by
  have hz : ((n0 : Int) == 0) = false := by simp; omega
  go_enter Try.func130, Try.ntmps130
  go_wp2_with fail
  refine (crow1 ob m cb ol q cl ok nk ck o0 n0 c0 o1 n1 c1 s _).mono ?_
  rintro e w1 ⟨rfl, rfl⟩
  go_wp2
  go_end0
  exact ⟨rfl, ((Below.refl _ _).alloc (Nat.le_refl _) _).alloc (by simp) _⟩
set_option maxRecDepth 100000 in
set_option maxHeartbeats 1000000 in
theorem cmust1_no (h : n0 = 0) : Calls Try.prog 130 #[.agg (SC ob m cb ol q cl ok nk ck 1 o0 n0 c0 o1 n1 c1 s)] w fun e w' => e = fault8 4 ∧ Below w.heap.size w w' := by
  subst h
  go_enter Try.func130, Try.ntmps130
  go_wp2_with fail
  refine (crow1 ob m cb ol q cl ok nk ck _ _ _ _ _ _ s _).mono ?_
  rintro e w1 ⟨rfl, rfl⟩
  go_wp2
  exact bodyPost_panic rfl ⟨rfl, ((Below.refl _ _).alloc (Nat.le_refl _) _).alloc (by simp) _⟩
set_option maxRecDepth 100000 in
set_option maxHeartbeats 1000000 in
theorem cmust2 (h : 0 < n1) : Calls Try.prog 130 #[.agg (SC ob m cb ol q cl ok nk ck 2 o0 n0 c0 o1 n1 c1 s)] w fun e w' => e = .returned (.tuple #[]) ∧ Below w.heap.size w w' := by
  have hz : ((n1 : Int) == 0) = false := by simp; omega
  go_enter Try.func130, Try.ntmps130
  go_wp2_with fail
  refine (crow2 ob m cb ol q cl ok nk ck o0 n0 c0 o1 n1 c1 s _).mono ?_
  rintro e w1 ⟨rfl, rfl⟩
  go_wp2
  go_end0
  exact ⟨rfl, ((Below.refl _ _).alloc (Nat.le_refl _) _).alloc (by simp) _⟩
set_option maxRecDepth 100000 in
set_option maxHeartbeats 1000000 in
theorem cmust2_no (h : n1 = 0) : Calls Try.prog 130 #[.agg (SC ob m cb ol q cl ok nk ck 2 o0 n0 c0 o1 n1 c1 s)] w fun e w' => e = fault8 4 ∧ Below w.heap.size w w' := by
  subst h
  go_enter Try.func130, Try.ntmps130
  go_wp2_with fail
  refine (crow2 ob m cb ol q cl ok nk ck _ _ _ _ _ _ s _).mono ?_
  rintro e w1 ⟨rfl, rfl⟩
  go_wp2
  exact bodyPost_panic rfl ⟨rfl, ((Below.refl _ _).alloc (Nat.le_refl _) _).alloc (by simp) _⟩
end
end Go.Proofs.Ytjfnhjmdgfkgnaa

