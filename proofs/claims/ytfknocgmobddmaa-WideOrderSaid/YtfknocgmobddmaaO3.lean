/- WideOrder's law: what its calls answer, in a form that needs no case. -/
import Derived.Test.YtfknocgmobddmaaO2
import Derived.Test.YtfknocgmobddmaaX4
namespace Go.Proofs.Ytfknocgmobddmaa
open Go.RowKit Go.Proofs.Kit Go.Shelf Go.Lib

def rv (S : Int) : Int := if S < Big then S else 0
def re (S : Int) : Int := if S < Big then 0 else 110
theorem chk_res {S : Int} {e : Ending} (h : Chk (S < Big) S e) : e = .returned (.tuple #[WV (hiW (rv S)) (loW (rv S)), .int .i64 (re S)]) := by
  unfold rv re
  by_cases hc : S < Big
  · rw [h.1 hc, if_pos hc, if_pos hc]
  · rw [h.2 hc, if_neg hc, if_neg hc]; rfl
theorem re_yes {S : Int} (h : S < Big) : re S = 0 := if_pos h
theorem re_no {S : Int} (h : ¬ S < Big) : re S = 110 := if_neg h
theorem rv_yes {S : Int} (h : S < Big) : rv S = S := if_pos h
theorem rv_rng {S : Int} (h : 0 ≤ S) : 0 ≤ rv S ∧ rv S < Big := by
  unfold rv
  split
  · omega
  · unfold Big; omega
theorem hi_rv {S : Int} (h : 0 ≤ S) : Wd (hiW (rv S)) := by
  have := rv_rng h
  unfold hiW Wd
  unfold Big at this
  omega

theorem sum_res (v : Value) (l : List (Int × Int)) (w : World) (h : Wides w v l) :
    Calls Try.prog 24 #[v] w fun e w' => e = .returned (.tuple #[WV (hiW (rv (sumN l))) (loW (rv (sumN l))), .int .i64 (re (sumN l))]) ∧ Below w.heap.size w w' :=
  (sum_any v l w h).mono fun _ _ ⟨h1, h2⟩ => ⟨chk_res h1, h2⟩
theorem mul_res (a b c d : Int) (ha : Wd a) (hb : Wd b) (hc : Wd c) (hd : Wd d) (S : Int) (hS : S = num (a, b) * num (c, d)) (w : World) :
    Calls Try.prog 14 #[WV a b, WV c d] w fun e w' => e = .returned (.tuple #[WV (hiW (rv S)) (loW (rv S)), .int .i64 (re S)]) ∧ Below w.heap.size w w' := by
  subst hS
  exact (mul_any a b c d ha hb hc hd w).mono fun _ _ ⟨h1, h2⟩ => ⟨chk_res h1, h2⟩
theorem add_res (a b c d : Int) (ha : Wd a) (hb : Wd b) (hc : Wd c) (hd : Wd d) (S : Int) (hS : S = num (a, b) + num (c, d)) (w : World) :
    Calls Try.prog 12 #[WV a b, WV c d] w fun e w' => e = .returned (.tuple #[WV (hiW (rv S)) (loW (rv S)), .int .i64 (re S)]) ∧ Below w.heap.size w w' := by
  subst hS
  exact (add_any a b c d ha hb hc hd w).mono fun _ _ ⟨h1, h2⟩ => ⟨chk_res h1, h2⟩
theorem ord_neg (x y : Int) : ord y x = - ord x y := by
  unfold ord
  split <;> split <;> (repeat' split) <;> omega
theorem sumN_perm {l l' : List (Int × Int)} (h : l'.Perm l) : sumN l' = sumN l := by
  induction h with
  | nil => rfl
  | cons x _ ih => simp [sumN, ih]
  | swap x y l => simp [sumN]; omega
  | trans _ _ h1 h2 => exact h1.trans h2
/-- The law of the two products. -/
theorem parts_whole {A B C : Int} (hA : 0 ≤ A) (hB : 0 ≤ B) (hC : 0 ≤ C) (h : A * (B + C) < Big) : A * B < Big ∧ A * C < Big ∧ A * B + A * C = A * (B + C) := by
  have h1 := Int.mul_nonneg hA hB
  have h2 := Int.mul_nonneg hA hC
  rw [Int.mul_add] at h
  exact ⟨by omega, by omega, (Int.mul_add _ _ _).symm⟩

/-- An argument: a slice of these numbers, in the world w. -/
def ArgW (w : World) (o : Option Addr) (cap : Nat) (l : List (Int × Int)) : Prop :=
  (o = none ∧ l = [] ∧ cap = 0) ∨ ∃ a : Addr, o = some a ∧ ∀ k (h : k < l.length), a.block < w.heap.size ∧ w.cell? (a.add (k * 2)) = some (.int .u64 l[k].1) ∧ w.cell? (a.add (k * 2 + 1)) = some (.int .u64 l[k].2)
theorem add_block (a : Addr) (j : Nat) : (a.add j).block = a.block := by
  unfold Addr.add
  split <;> rfl
theorem clone_arg (o : Option Addr) (n c : Nat) (l : List (Int × Int)) (w w1 : World) (h : ArgW w o c l) (hn : n = min l.length 12) (hb : Below w.heap.size w w1) :
    Calls Try.prog 30 #[.slice o n c] w1 fun e w' => ∃ v', e = .returned v' ∧ OwnW w1.heap.size w' v' (l.take 12) ∧ Below w1.heap.size w1 w' := by
  rcases h with ⟨rfl, rfl, rfl⟩ | ⟨a, rfl, hc⟩
  · obtain rfl : n = 0 := by simpa using hn
    exact clone_nil w1
  · refine clone_some a n c (l.take 12) w1 (by rw [List.length_take, hn, Nat.min_comm]) (by omega) (fun k hk => ?_)
    have hk' : k < l.length := by rw [List.length_take] at hk; omega
    obtain ⟨h0, h1, h2⟩ := hc k hk'
    rw [List.getElem_take]
    exact ⟨(hb.cell (p := a.add (k * 2)) (by rw [add_block]; exact h0)).trans h1, (hb.cell (p := a.add (k * 2 + 1)) (by rw [add_block]; exact h0)).trans h2⟩
theorem OwnW.slice {B : Nat} {w : World} {v : Value} {l : List (Int × Int)} (h : OwnW B w v l) : ∃ o c, v = .slice o l.length c := by
  rcases h with ⟨rfl, rfl⟩ | ⟨g, cap, cur, rfl, _⟩
  · exact ⟨none, 0, rfl⟩
  · exact ⟨_, _, rfl⟩
theorem OwnW.later {B : Nat} {w w' : World} {v : Value} {l : List (Int × Int)} (h : OwnW B w v l) (hb : Below w.heap.size w w') : OwnW B w' v l := by
  rcases h with h | ⟨g, cap, cur, rfl, h1, h2, h3⟩
  · exact .inl h
  · exact .inr ⟨g, cap, cur, rfl, h1, h2.later hb, h3⟩
theorem OwnW.alloc {B : Nat} {w : World} {v : Value} {l : List (Int × Int)} (h : OwnW B w v l) (o : Obj) : OwnW B (w.alloc o) v l := h.later ((Below.refl _ _).alloc (Nat.le_refl _) o)
theorem OwnW.wides {B : Nat} {w : World} {v : Value} {l : List (Int × Int)} (h : OwnW B w v l) (hw : ∀ p ∈ l, Wp p) (h12 : l.length ≤ 12) : Wides w v l := by
  rcases h with h | ⟨g, cap, cur, rfl, h1, h2, h3⟩
  · exact ⟨hw, by omega, .inl h⟩
  · exact Wides.of_blk h2 rfl (by omega) hw h3
/-- A block laid behind the slice's is none of its. -/
def Apart (v : Value) (b : Nat) : Prop := ∀ n c, v ≠ .slice (some ⟨b, 0, none⟩) n c
theorem OwnW.apart {B : Nat} {w : World} {v : Value} {l : List (Int × Int)} (h : OwnW B w v l) : Apart v w.heap.size := by
  intro n c e
  rcases h with ⟨rfl, _⟩ | ⟨g, cap, cur, rfl, h1, h2, h3⟩
  · cases e
  · have := h2.lt
    cases e
    omega
theorem OwnW.apart_below {B b : Nat} {w : World} {v : Value} {l : List (Int × Int)} (h : OwnW B w v l) (hb : b < B) : Apart v b := by
  intro n c e
  rcases h with ⟨rfl, _⟩ | ⟨g, cap, cur, rfl, h1, h2, h3⟩
  · cases e
  · cases e
    omega

/-- The boxes of WideOrder: a, b, the two sums, the two products. -/
structure Six (w : World) (a b c d s0 s1 x0 x1 : Int) (kS kT kX kY : Nat) (w' : World) : Prop where
  bA : Blk w' w.heap.size #[.int .u64 a, .int .u64 b] 26
  bB : Blk w' (w.heap.size + 1) #[.int .u64 c, .int .u64 d] 26
  bS : Blk w' kS #[.int .u64 s0, .int .u64 s1] 26
  bT : Blk w' kT #[.int .u64 s0, .int .u64 s1] 26
  bX : Blk w' kX #[.int .u64 x0, .int .u64 x1] 26
  bY : Blk w' kY #[.int .u64 x0, .int .u64 x1] 26
  low : Below w.heap.size w w'
section
variable {w : World} {a b c d s0 s1 x0 x1 : Int} {kS kT kX kY : Nat} {w' w'' : World}
theorem Six.later (h : Six w a b c d s0 s1 x0 x1 kS kT kX kY w') (hb : Below w'.heap.size w' w'') : Six w a b c d s0 s1 x0 x1 kS kT kX kY w'' := ⟨h.bA.later hb, h.bB.later hb, h.bS.later hb, h.bT.later hb, h.bX.later hb, h.bY.later hb, h.low.trans (hb.mono h.low.size)⟩
theorem Six.cells (h : Six w a b c d s0 s1 x0 x1 kS kT kX kY w') : w'.cell? ⟨w.heap.size, 0, none⟩ = some (.int .u64 a) ∧ w'.cell? ⟨w.heap.size, 1, none⟩ = some (.int .u64 b) ∧ w'.cell? ⟨w.heap.size + 1, 0, none⟩ = some (.int .u64 c) ∧ w'.cell? ⟨w.heap.size + 1, 1, none⟩ = some (.int .u64 d) ∧ w'.cell? ⟨kS, 0, none⟩ = some (.int .u64 s0) ∧ w'.cell? ⟨kS, 1, none⟩ = some (.int .u64 s1) ∧ w'.cell? ⟨kT, 0, none⟩ = some (.int .u64 s0) ∧ w'.cell? ⟨kT, 1, none⟩ = some (.int .u64 s1) ∧ w'.cell? ⟨kX, 0, none⟩ = some (.int .u64 x0) ∧ w'.cell? ⟨kX, 1, none⟩ = some (.int .u64 x1) ∧ w'.cell? ⟨kY, 0, none⟩ = some (.int .u64 x0) ∧ w'.cell? ⟨kY, 1, none⟩ = some (.int .u64 x1) :=
  ⟨h.bA.cell 0, h.bA.cell 1, h.bB.cell 0, h.bB.cell 1, h.bS.cell 0, h.bS.cell 1, h.bT.cell 0, h.bT.cell 1, h.bX.cell 0, h.bX.cell 1, h.bY.cell 0, h.bY.cell 1⟩
theorem Six.alloc (h : Six w a b c d s0 s1 x0 x1 kS kT kX kY w') (o : Obj) : Six w a b c d s0 s1 x0 x1 kS kT kX kY (w'.alloc o) := h.later ((Below.refl _ _).alloc (Nat.le_refl _) o)
theorem Six.drew (h : Six w a b c d s0 s1 x0 x1 kS kT kX kY w') : Six w a b c d s0 s1 x0 x1 kS kT kX kY w'.drew := ⟨h.bA, h.bB, h.bS, h.bT, h.bX, h.bY, h.low.drew⟩
end
theorem cmp_one (a b c d n : Int) (hb : Wd b) (hd : Wd d) (h : n = ord (num (a, b)) (num (c, d))) (w : World) :
    Calls Try.prog 15 #[WV a b, WV c d] w fun e w' => e = .returned (.int .i64 n) ∧ Below w.heap.size w w' := by
  subst h
  exact compare_any a b c d hb hd w
end Go.Proofs.Ytfknocgmobddmaa
