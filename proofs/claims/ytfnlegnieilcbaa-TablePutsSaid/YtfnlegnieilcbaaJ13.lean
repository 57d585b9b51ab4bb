/- wakes; small, own, cut, same. -/
import Derived.Test.YtfnlegnieilcbaaJ12
namespace Go.Proofs.Kit
open Go.RowKit
abbrev sA : ByteArray := ⟨#[97]⟩
abbrev sB : ByteArray := ⟨#[98]⟩
theorem wake_all : allL ([] : List ByteArray) [sB, sA, sB] = some ([sB, sA], [0, 1, 0]) := by decide +kernel
theorem wake_pos : pos [sB, sA] sA = 1 := by decide +kernel
theorem wake_mem : sA ∈ [sB, sA] := by simp
theorem hash_none : ((hsh ⟨#[]⟩ : Nat) : Int) = 14695981039346656037 := by decide +kernel
end Go.Proofs.Kit
namespace Go.Proofs.Ytfnlegnieilcbaa
open Go.RowKit Go.Proofs.Kit Go.Shelf

theorem hash_empty (w : World) : Calls Try.prog 16 #[.string ⟨#[]⟩] w fun e w' => e = .returned (.int .u64 14695981039346656037) ∧ w' = w := by
  rw [← hash_none]
  exact hash_any ⟨#[]⟩ (by decide) w

theorem fld1 (x : Value) (o : Option Addr) (n c : Nat) (W : World) : (Instr.field 25 (.agg #[x, .slice o n c]) 1).run Try.prog W = .ok (.slice o n c) W := by
  simp [Instr.field, go_sem, asAgg]
set_option maxHeartbeats 4000000 in
theorem wakes_any (w : World) : Calls Try.prog 8 #[] w fun e w' => e = .returned (.bool true) ∧ Below w.heap.size w w' := by
  have hfld := fld1
  go_enter Try.func8, Try.ntmps8
  go_wp2_with fail
  refine (new_any w).mono ?_
  rintro e w1 ⟨b1, rfl, o1, h1⟩
  go_wp2_with fail
  obtain ⟨W2, hW2⟩ : ∃ W2, W2 = w1.alloc (.cells #[.string sB, .string sA, .string sB] 9) := ⟨_, rfl⟩
  have g2 : Gr w1 W2 := by rw [hW2]; exact Gr.alloc _ _
  have s2 : Sl W2 (.slice (some ⟨w1.heap.size, 0, none⟩) 3 3) ([sB, sA, sB].map Value.string) := by
    rw [hW2]
    exact Sl.of_blk (l := [.string sB, .string sA, .string sB]) (Blk.new _ _ _) (by simp) (by simp) (by simp)
  rw [← hW2]
  clear hW2
  have hb2 : Below w.heap.size w W2 := below_gr h1 g2 h1.size
  refine (all_any _ _ _ [] [sB, sA, sB] (List.replicate 8 0) W2 (Sl.nil _) (o1.gr g2).sl s2 (by simp) (by simp) (by simp) (by simp; decide) good_new).mono ?_
  rintro e w3 (⟨_, h, _⟩ | ⟨_, T', ns, vT', vS', vN', h, ha⟩)
  · rw [wake_all] at h; cases h
  · rw [wake_all] at h
    injection h with h
    injection h with h3 h4
    subst h3 h4
    obtain ⟨S', p1, p2, p3, p4⟩ := ha.ex
    have p5 := ha.oN
    obtain ⟨a1, x1, rfl⟩ := p1.shape
    obtain ⟨a2, x2, rfl⟩ := p2.shape
    obtain ⟨a3, x3, rfl⟩ := p5.shape
    have hb3 : Below w.heap.size w w3 := hb2.trans (ha.low.mono hb2.size)
    have P1 := Lib.hid p1
    have P2 := Lib.hid p2
    have P3 := Lib.hid p3
    have P4 := Lib.hid p4
    have P5 := Lib.hid p5
    clear ha p1 p2 p3 p4 p5 s2 o1 h1 g2
    simp only [List.length_map, List.length_cons, List.length_nil, Nat.zero_add, Nat.reduceAdd] at P1 P2 P5 ⊢
    go_wp2_with fail
    obtain ⟨W4, hW4⟩ : ∃ W4, W4 = w3.alloc (.cells #[.slice a1 2 x1, .slice a2 S'.length x2] 25) := ⟨_, rfl⟩
    have g4 : Gr w3 W4 := by rw [hW4]; exact Gr.alloc _ _
    have k4 := Blk.new w3 #[.slice a1 2 x1, .slice a2 S'.length x2] 25
    rw [← hW4] at k4 ⊢
    clear hW4
    have K4 := Lib.hid k4
    clear k4
    have hS' : S'.length ≤ 10000000 := by have := P4.out; simp at this; omega
    have hz2 : ∀ s ∈ [sB, sA], s.size ≤ 9223372036854775807 := by simp; decide
    refine (find_any _ _ [sB, sA] S' sA (by decide) W4 (P1.out.gr g4).sl (P2.out.gr g4).sl (by omega) (by simp) hz2 1 true (.inl ⟨P3.out, wake_mem, by rw [wake_pos]; rfl, rfl⟩)).mono ?_
    rintro e W5 ⟨rfl, g5⟩
    have k5 := K4.out.gr g5
    obtain ⟨c0, c1⟩ : W5.cell? ⟨w3.heap.size, 0, none⟩ = some (.slice a1 2 x1) ∧ W5.cell? ⟨w3.heap.size, 1, none⟩ = some (.slice a2 S'.length x2) := ⟨k5.cell 0, k5.cell 1⟩
    clear k5
    have g35 := g4.trans g5
    go_wp2_with fail
    refine (texts_any _ _ [sB, sA] S' W5 (P1.out.gr g35).sl (P2.out.gr g35).sl (by omega) (by simp) hz2 2 ⟨#[]⟩ 4 (.inr (.inr ⟨P3.out, by simp, rfl, rfl⟩))).mono ?_
    rintro e W6 ⟨rfl, g6⟩
    have g36 := g35.trans g6
    have O6 := Lib.hid (P5.out.gr g36)
    have hb6 := below_gr hb3 g36 hb3.size
    clear c0 c1 hS' hz2 P4
    go_wp2_with fail
    have se : Sl (W6.alloc (.cells #[.int .i64 0, .int .i64 1, .int .i64 0] 3)) (.slice (some ⟨W6.heap.size, 0, none⟩) 3 3) (([0, 1, 0] : List Int).map (Value.int .i64)) :=
      Sl.of_blk (l := [.int .i64 0, .int .i64 1, .int .i64 0]) (Blk.new _ _ _) (by simp) (by simp) (by simp)
    refine (equali_sl _ _ [0, 1, 0] [0, 1, 0] _ (O6.out.gr (Gr.alloc _ _)).sl se).mono ?_
    rintro e W7 ⟨rfl, g7⟩
    have hb7 := below_gr (below_gr hb6 (Gr.alloc W6 (.cells #[.int .i64 0, .int .i64 1, .int .i64 0] 3)) hb6.size) (Gr.of_dr g7) (by have := hb6.size; simp; omega)
    clear se g7
    rw [decide_eq_true (rfl : ([0, 1, 0] : List Int) = [0, 1, 0])]
    go_wp2_with (go_at_call 16; refine (hash_empty _).mono ?_; rintro e w' ⟨rfl, rfl⟩)
    refine (new_any _).mono ?_
    rintro e W8 ⟨b8, rfl, _, h8⟩
    go_wp2
    go_ret
    exact ⟨rfl, hb7.trans (h8.mono hb7.size)⟩
end Go.Proofs.Ytfnlegnieilcbaa
