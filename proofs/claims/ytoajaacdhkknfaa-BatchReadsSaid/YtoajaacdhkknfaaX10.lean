/- What a law cuts its changes to: cut. -/
import Derived.Test.YtoajaacdhkknfaaX7
import Derived.Test.YtoajaacdhkknfaaX9
import Derived.Test.YtoajaacdhkknfaaStB
import Derived.Lib.MinMax
namespace Go.Proofs.Kit
open Go.RowKit
/-- A text's first bytes. -/
def cutS (n : Nat) (s : ByteArray) : ByteArray := s.extract 0 (min s.size n)
def cutC (c : Chg) : Chg := ⟨c.kind, cutS 60 c.key, cutS 60 c.name, cutS 60 c.val, cutS 60 c.to⟩
theorem cutS_size (n : Nat) (s : ByteArray) : (cutS n s).size ≤ n := by simp [cutS]; omega
theorem min60 (n : Nat) : ∃ q : Nat, min (n : Int) 60 = (q : Int) ∧ q = min n 60 := ⟨min n 60, by omega, rfl⟩
end Go.Proofs.Kit
namespace Go.Proofs.Ytoajaacdhkknfaa
open Go.RowKit Go.Proofs.Kit Go.Shelf
set_option maxRecDepth 100000 in
set_option maxHeartbeats 4000000 in
theorem cut9_any (k : Int) (a b c d : ByteArray) (ha : a.size ≤ 9223372036854775807) (hb : b.size ≤ 9223372036854775807) (hc : c.size ≤ 9223372036854775807) (hd : d.size ≤ 9223372036854775807) (w : World) :
    Calls Try.prog 23 #[CV ⟨k, a, b, c, d⟩] w fun e w' => e = .returned (CV (cutC ⟨k, a, b, c, d⟩)) ∧ Below w.heap.size w w' := by
  obtain ⟨qa, ma, ea⟩ := min60 a.size
  obtain ⟨qb, mb, eb⟩ := min60 b.size
  obtain ⟨qc, mc, ec⟩ := min60 c.size
  obtain ⟨qd, md, ed⟩ := min60 d.size
  have la : qa ≤ a.size := by omega
  have lb : qb ≤ b.size := by omega
  have lc : qc ≤ c.size := by omega
  have ld : qd ≤ d.size := by omega
  have EA := Lib.hid ea
  have EB := Lib.hid eb
  have EC := Lib.hid ec
  have ED := Lib.hid ed
  clear ea eb ec ed
  go_enter Try.func23, Try.ntmps23
  go_upto_region 1 with (fail)
  obtain ⟨W1, hW1⟩ : ∃ W1, W1 = (w.alloc (.cells #[.int .i64 k, .string a, .string b, .string c, .string d] 27)).alloc (.cells #[.int .i64 0, .string ⟨#[]⟩, .string ⟨#[]⟩, .string ⟨#[]⟩, .string ⟨#[]⟩] 27) := ⟨_, rfl⟩
  have b1 : Blk W1 w.heap.size #[.int .i64 k, .string a, .string b, .string c, .string d] 27 := by rw [hW1]; exact (Blk.new _ _ _).alloc _
  have b2 : Blk W1 (w.heap.size + 1) #[.int .i64 0, .string ⟨#[]⟩, .string ⟨#[]⟩, .string ⟨#[]⟩, .string ⟨#[]⟩] 27 := by rw [hW1]; have := Blk.new (w.alloc (.cells #[.int .i64 k, .string a, .string b, .string c, .string d] 27)) #[.int .i64 0, .string ⟨#[]⟩, .string ⟨#[]⟩, .string ⟨#[]⟩, .string ⟨#[]⟩] 27; simpa using this
  have g1 : Below w.heap.size w W1 := by rw [hW1]; exact ((Gr.alloc _ _).trans (Gr.alloc _ _)).below
  rw [← hW1]
  clear hW1
  have B1 := Lib.hid b1
  have B2 := Lib.hid b2
  have G1 := Lib.hid g1
  obtain ⟨c0, c1, c2, c3, c4⟩ : W1.cell? ⟨w.heap.size, 0, none⟩ = some (.int .i64 k) ∧ W1.cell? ⟨w.heap.size, 1, none⟩ = some (.string a) ∧ W1.cell? ⟨w.heap.size, 2, none⟩ = some (.string b) ∧ W1.cell? ⟨w.heap.size, 3, none⟩ = some (.string c) ∧ W1.cell? ⟨w.heap.size, 4, none⟩ = some (.string d) := ⟨b1.cell 0, b1.cell 1, b1.cell 2, b1.cell 3, b1.cell 4⟩
  obtain ⟨f1, f2, f3, f4⟩ : W1.frozen? ⟨w.heap.size, 1, none⟩ = false ∧ W1.frozen? ⟨w.heap.size, 2, none⟩ = false ∧ W1.frozen? ⟨w.heap.size, 3, none⟩ = false ∧ W1.frozen? ⟨w.heap.size, 4, none⟩ = false := ⟨b1.frozen 1, b1.frozen 2, b1.frozen 3, b1.frozen 4⟩
  have l1 := b1.lt
  clear b1 b2 g1
  refine wp_region_B (by kernel_rfl) 29 (fun w' => w'.cell? ⟨w.heap.size, 1, none⟩ = some (.string a) ∧ w'.cell? ⟨w.heap.size, 2, none⟩ = some (.string b) ∧ w'.cell? ⟨w.heap.size, 3, none⟩ = some (.string c) ∧ w'.cell? ⟨w.heap.size, 4, none⟩ = some (.string d)) ?_
  have hS : (fun w' => w'.cell? ⟨w.heap.size, 1, none⟩ = some (.string a) ∧ w'.cell? ⟨w.heap.size, 2, none⟩ = some (.string b) ∧ w'.cell? ⟨w.heap.size, 3, none⟩ = some (.string c) ∧ w'.cell? ⟨w.heap.size, 4, none⟩ = some (.string d)) W1.drew := ⟨c1, c2, c3, c4⟩
  refine takeW 0 { dst := some 3, op := Op.fieldAddr 27 (Operand.tmp 1) 1, type := 0, pos := "law.go:22", after := #[], guard := none } (v := ?v0) rfl (by kernel_rfl) (by kernel_rfl) (by kernel_rfl) (fun _ _ _ h => h) (by rfl) (by rfl) (fun _ => hS) ?y0 ?_
  case y0 =>
    intro w
    go_simp
    try (with_reducible rfl)
  try simp only [Act.put, List.setIfInBounds_toArray, List.set_cons_zero, List.set_cons_succ]
  refine takeB 1 { dst := some 4, op := Op.load 9 (Operand.tmp 3), type := 9, pos := "law.go:22", after := #[{ on := 0, ground := Ground.data }], guard := none } (v := ?v1) rfl (by kernel_rfl) (by kernel_rfl) (by kernel_rfl) (fun _ _ _ h => h) (by rfl) (by rfl) (by kernel_rfl) (by kernel_rfl) hS ?y1 ?_
  case y1 =>
    intro w hSw
    try dsimp only at hSw
    go_simp
    try (with_reducible rfl)
  try simp only [Act.put, List.setIfInBounds_toArray, List.set_cons_zero, List.set_cons_succ]
  refine takeW 2 { dst := some 5, op := Op.fieldAddr 27 (Operand.tmp 1) 1, type := 0, pos := "law.go:22", after := #[], guard := none } (v := ?v2) rfl (by kernel_rfl) (by kernel_rfl) (by kernel_rfl) (fun _ _ _ h => h) (by rfl) (by rfl) (fun _ => hS) ?y2 ?_
  case y2 =>
    intro w
    go_simp
    try (with_reducible rfl)
  try simp only [Act.put, List.setIfInBounds_toArray, List.set_cons_zero, List.set_cons_succ]
  refine takeB 3 { dst := some 6, op := Op.load 9 (Operand.tmp 5), type := 9, pos := "law.go:22", after := #[{ on := 2, ground := Ground.data }], guard := none } (v := ?v3) rfl (by kernel_rfl) (by kernel_rfl) (by kernel_rfl) (fun _ _ _ h => h) (by rfl) (by rfl) (by kernel_rfl) (by kernel_rfl) hS ?y3 ?_
  case y3 =>
    intro w hSw
    try dsimp only at hSw
    go_simp
    try (with_reducible rfl)
  try simp only [Act.put, List.setIfInBounds_toArray, List.set_cons_zero, List.set_cons_succ]
  refine takeW 4 { dst := some 7, op := Op.call { callee := Callee.builtin Builtin.len, args := #[Operand.tmp 6], argTypes := #[9] }, type := 3, pos := "law.go:22", after := #[{ on := 3, ground := Ground.data }], guard := none } (v := ?v4) rfl (by kernel_rfl) (by kernel_rfl) (by kernel_rfl) (fun _ _ _ h => h) (by rfl) (by rfl) (fun _ => hS) ?y4 ?_
  case y4 =>
    intro w
    go_simp
    try (with_reducible rfl)
  try simp only [Act.put, List.setIfInBounds_toArray, List.set_cons_zero, List.set_cons_succ]
  refine takeW 5 { dst := some 8, op := Op.call { callee := Callee.builtin Builtin.min, args := #[Operand.tmp 7, Operand.const (Value.int IntKind.i64 60)], argTypes := #[3, 3] }, type := 3, pos := "law.go:22", after := #[{ on := 4, ground := Ground.data }], guard := none } (v := ?v5) rfl (by kernel_rfl) (by kernel_rfl) (by kernel_rfl) (fun _ _ _ h => h) (by rfl) (by rfl) (fun _ => hS) ?y5 ?_
  case y5 =>
    intro w
    go_simp
    try (with_reducible rfl)
  try simp only [Act.put, List.setIfInBounds_toArray, List.set_cons_zero, List.set_cons_succ]
  refine takeW 6 { dst := some 9, op := Op.slice 9 (Operand.tmp 4) none (some (Operand.tmp 8)) none, type := 9, pos := "law.go:22", after := #[{ on := 1, ground := Ground.data }, { on := 5, ground := Ground.data }], guard := none } (v := ?v6) rfl (by kernel_rfl) (by kernel_rfl) (by kernel_rfl) (fun _ _ _ h => h) (by rfl) (by rfl) (fun _ => hS) ?y6 ?_
  case y6 =>
    intro w
    go_simp
    try (with_reducible rfl)
  try simp only [Act.put, List.setIfInBounds_toArray, List.set_cons_zero, List.set_cons_succ]
  refine takeW 7 { dst := some 10, op := Op.fieldAddr 27 (Operand.tmp 1) 2, type := 0, pos := "law.go:22", after := #[], guard := none } (v := ?v7) rfl (by kernel_rfl) (by kernel_rfl) (by kernel_rfl) (fun _ _ _ h => h) (by rfl) (by rfl) (fun _ => hS) ?y7 ?_
  case y7 =>
    intro w
    go_simp
    try (with_reducible rfl)
  try simp only [Act.put, List.setIfInBounds_toArray, List.set_cons_zero, List.set_cons_succ]
  refine takeB 8 { dst := some 11, op := Op.load 9 (Operand.tmp 10), type := 9, pos := "law.go:22", after := #[{ on := 7, ground := Ground.data }], guard := none } (v := ?v8) rfl (by kernel_rfl) (by kernel_rfl) (by kernel_rfl) (fun _ _ _ h => h) (by rfl) (by rfl) (by kernel_rfl) (by kernel_rfl) hS ?y8 ?_
  case y8 =>
    intro w hSw
    try dsimp only at hSw
    go_simp
    try (with_reducible rfl)
  try simp only [Act.put, List.setIfInBounds_toArray, List.set_cons_zero, List.set_cons_succ]
  refine takeW 9 { dst := some 12, op := Op.fieldAddr 27 (Operand.tmp 1) 2, type := 0, pos := "law.go:22", after := #[], guard := none } (v := ?v9) rfl (by kernel_rfl) (by kernel_rfl) (by kernel_rfl) (fun _ _ _ h => h) (by rfl) (by rfl) (fun _ => hS) ?y9 ?_
  case y9 =>
    intro w
    go_simp
    try (with_reducible rfl)
  try simp only [Act.put, List.setIfInBounds_toArray, List.set_cons_zero, List.set_cons_succ]
  refine takeB 10 { dst := some 13, op := Op.load 9 (Operand.tmp 12), type := 9, pos := "law.go:22", after := #[{ on := 9, ground := Ground.data }], guard := none } (v := ?v10) rfl (by kernel_rfl) (by kernel_rfl) (by kernel_rfl) (fun _ _ _ h => h) (by rfl) (by rfl) (by kernel_rfl) (by kernel_rfl) hS ?y10 ?_
  case y10 =>
    intro w hSw
    try dsimp only at hSw
    go_simp
    try (with_reducible rfl)
  try simp only [Act.put, List.setIfInBounds_toArray, List.set_cons_zero, List.set_cons_succ]
  refine takeW 11 { dst := some 14, op := Op.call { callee := Callee.builtin Builtin.len, args := #[Operand.tmp 13], argTypes := #[9] }, type := 3, pos := "law.go:22", after := #[{ on := 10, ground := Ground.data }], guard := none } (v := ?v11) rfl (by kernel_rfl) (by kernel_rfl) (by kernel_rfl) (fun _ _ _ h => h) (by rfl) (by rfl) (fun _ => hS) ?y11 ?_
  case y11 =>
    intro w
    go_simp
    try (with_reducible rfl)
  try simp only [Act.put, List.setIfInBounds_toArray, List.set_cons_zero, List.set_cons_succ]
  refine takeW 12 { dst := some 15, op := Op.call { callee := Callee.builtin Builtin.min, args := #[Operand.tmp 14, Operand.const (Value.int IntKind.i64 60)], argTypes := #[3, 3] }, type := 3, pos := "law.go:22", after := #[{ on := 11, ground := Ground.data }], guard := none } (v := ?v12) rfl (by kernel_rfl) (by kernel_rfl) (by kernel_rfl) (fun _ _ _ h => h) (by rfl) (by rfl) (fun _ => hS) ?y12 ?_
  case y12 =>
    intro w
    go_simp
    try (with_reducible rfl)
  try simp only [Act.put, List.setIfInBounds_toArray, List.set_cons_zero, List.set_cons_succ]
  refine takeW 13 { dst := some 16, op := Op.slice 9 (Operand.tmp 11) none (some (Operand.tmp 15)) none, type := 9, pos := "law.go:22", after := #[{ on := 8, ground := Ground.data }, { on := 12, ground := Ground.data }], guard := none } (v := ?v13) rfl (by kernel_rfl) (by kernel_rfl) (by kernel_rfl) (fun _ _ _ h => h) (by rfl) (by rfl) (fun _ => hS) ?y13 ?_
  case y13 =>
    intro w
    go_simp
    try (with_reducible rfl)
  try simp only [Act.put, List.setIfInBounds_toArray, List.set_cons_zero, List.set_cons_succ]
  refine takeW 14 { dst := some 17, op := Op.fieldAddr 27 (Operand.tmp 1) 3, type := 0, pos := "law.go:22", after := #[], guard := none } (v := ?v14) rfl (by kernel_rfl) (by kernel_rfl) (by kernel_rfl) (fun _ _ _ h => h) (by rfl) (by rfl) (fun _ => hS) ?y14 ?_
  case y14 =>
    intro w
    go_simp
    try (with_reducible rfl)
  try simp only [Act.put, List.setIfInBounds_toArray, List.set_cons_zero, List.set_cons_succ]
  refine takeB 15 { dst := some 18, op := Op.load 9 (Operand.tmp 17), type := 9, pos := "law.go:22", after := #[{ on := 14, ground := Ground.data }], guard := none } (v := ?v15) rfl (by kernel_rfl) (by kernel_rfl) (by kernel_rfl) (fun _ _ _ h => h) (by rfl) (by rfl) (by kernel_rfl) (by kernel_rfl) hS ?y15 ?_
  case y15 =>
    intro w hSw
    try dsimp only at hSw
    go_simp
    try (with_reducible rfl)
  try simp only [Act.put, List.setIfInBounds_toArray, List.set_cons_zero, List.set_cons_succ]
  refine takeW 16 { dst := some 19, op := Op.fieldAddr 27 (Operand.tmp 1) 3, type := 0, pos := "law.go:22", after := #[], guard := none } (v := ?v16) rfl (by kernel_rfl) (by kernel_rfl) (by kernel_rfl) (fun _ _ _ h => h) (by rfl) (by rfl) (fun _ => hS) ?y16 ?_
  case y16 =>
    intro w
    go_simp
    try (with_reducible rfl)
  try simp only [Act.put, List.setIfInBounds_toArray, List.set_cons_zero, List.set_cons_succ]
  refine takeB 17 { dst := some 20, op := Op.load 9 (Operand.tmp 19), type := 9, pos := "law.go:22", after := #[{ on := 16, ground := Ground.data }], guard := none } (v := ?v17) rfl (by kernel_rfl) (by kernel_rfl) (by kernel_rfl) (fun _ _ _ h => h) (by rfl) (by rfl) (by kernel_rfl) (by kernel_rfl) hS ?y17 ?_
  case y17 =>
    intro w hSw
    try dsimp only at hSw
    go_simp
    try (with_reducible rfl)
  try simp only [Act.put, List.setIfInBounds_toArray, List.set_cons_zero, List.set_cons_succ]
  refine takeW 18 { dst := some 21, op := Op.call { callee := Callee.builtin Builtin.len, args := #[Operand.tmp 20], argTypes := #[9] }, type := 3, pos := "law.go:22", after := #[{ on := 17, ground := Ground.data }], guard := none } (v := ?v18) rfl (by kernel_rfl) (by kernel_rfl) (by kernel_rfl) (fun _ _ _ h => h) (by rfl) (by rfl) (fun _ => hS) ?y18 ?_
  case y18 =>
    intro w
    go_simp
    try (with_reducible rfl)
  try simp only [Act.put, List.setIfInBounds_toArray, List.set_cons_zero, List.set_cons_succ]
  refine takeW 19 { dst := some 22, op := Op.call { callee := Callee.builtin Builtin.min, args := #[Operand.tmp 21, Operand.const (Value.int IntKind.i64 60)], argTypes := #[3, 3] }, type := 3, pos := "law.go:22", after := #[{ on := 18, ground := Ground.data }], guard := none } (v := ?v19) rfl (by kernel_rfl) (by kernel_rfl) (by kernel_rfl) (fun _ _ _ h => h) (by rfl) (by rfl) (fun _ => hS) ?y19 ?_
  case y19 =>
    intro w
    go_simp
    try (with_reducible rfl)
  try simp only [Act.put, List.setIfInBounds_toArray, List.set_cons_zero, List.set_cons_succ]
  refine takeW 20 { dst := some 23, op := Op.slice 9 (Operand.tmp 18) none (some (Operand.tmp 22)) none, type := 9, pos := "law.go:22", after := #[{ on := 15, ground := Ground.data }, { on := 19, ground := Ground.data }], guard := none } (v := ?v20) rfl (by kernel_rfl) (by kernel_rfl) (by kernel_rfl) (fun _ _ _ h => h) (by rfl) (by rfl) (fun _ => hS) ?y20 ?_
  case y20 =>
    intro w
    go_simp
    try (with_reducible rfl)
  try simp only [Act.put, List.setIfInBounds_toArray, List.set_cons_zero, List.set_cons_succ]
  refine takeW 21 { dst := some 24, op := Op.fieldAddr 27 (Operand.tmp 1) 4, type := 0, pos := "law.go:22", after := #[], guard := none } (v := ?v21) rfl (by kernel_rfl) (by kernel_rfl) (by kernel_rfl) (fun _ _ _ h => h) (by rfl) (by rfl) (fun _ => hS) ?y21 ?_
  case y21 =>
    intro w
    go_simp
    try (with_reducible rfl)
  try simp only [Act.put, List.setIfInBounds_toArray, List.set_cons_zero, List.set_cons_succ]
  refine takeB 22 { dst := some 25, op := Op.load 9 (Operand.tmp 24), type := 9, pos := "law.go:22", after := #[{ on := 21, ground := Ground.data }], guard := none } (v := ?v22) rfl (by kernel_rfl) (by kernel_rfl) (by kernel_rfl) (fun _ _ _ h => h) (by rfl) (by rfl) (by kernel_rfl) (by kernel_rfl) hS ?y22 ?_
  case y22 =>
    intro w hSw
    try dsimp only at hSw
    go_simp
    try (with_reducible rfl)
  try simp only [Act.put, List.setIfInBounds_toArray, List.set_cons_zero, List.set_cons_succ]
  refine takeW 23 { dst := some 26, op := Op.fieldAddr 27 (Operand.tmp 1) 4, type := 0, pos := "law.go:22", after := #[], guard := none } (v := ?v23) rfl (by kernel_rfl) (by kernel_rfl) (by kernel_rfl) (fun _ _ _ h => h) (by rfl) (by rfl) (fun _ => hS) ?y23 ?_
  case y23 =>
    intro w
    go_simp
    try (with_reducible rfl)
  try simp only [Act.put, List.setIfInBounds_toArray, List.set_cons_zero, List.set_cons_succ]
  refine takeB 24 { dst := some 27, op := Op.load 9 (Operand.tmp 26), type := 9, pos := "law.go:22", after := #[{ on := 23, ground := Ground.data }], guard := none } (v := ?v24) rfl (by kernel_rfl) (by kernel_rfl) (by kernel_rfl) (fun _ _ _ h => h) (by rfl) (by rfl) (by kernel_rfl) (by kernel_rfl) hS ?y24 ?_
  case y24 =>
    intro w hSw
    try dsimp only at hSw
    go_simp
    try (with_reducible rfl)
  try simp only [Act.put, List.setIfInBounds_toArray, List.set_cons_zero, List.set_cons_succ]
  refine takeW 25 { dst := some 28, op := Op.call { callee := Callee.builtin Builtin.len, args := #[Operand.tmp 27], argTypes := #[9] }, type := 3, pos := "law.go:22", after := #[{ on := 24, ground := Ground.data }], guard := none } (v := ?v25) rfl (by kernel_rfl) (by kernel_rfl) (by kernel_rfl) (fun _ _ _ h => h) (by rfl) (by rfl) (fun _ => hS) ?y25 ?_
  case y25 =>
    intro w
    go_simp
    try (with_reducible rfl)
  try simp only [Act.put, List.setIfInBounds_toArray, List.set_cons_zero, List.set_cons_succ]
  refine takeW 26 { dst := some 29, op := Op.call { callee := Callee.builtin Builtin.min, args := #[Operand.tmp 28, Operand.const (Value.int IntKind.i64 60)], argTypes := #[3, 3] }, type := 3, pos := "law.go:22", after := #[{ on := 25, ground := Ground.data }], guard := none } (v := ?v26) rfl (by kernel_rfl) (by kernel_rfl) (by kernel_rfl) (fun _ _ _ h => h) (by rfl) (by rfl) (fun _ => hS) ?y26 ?_
  case y26 =>
    intro w
    go_simp
    try (with_reducible rfl)
  try simp only [Act.put, List.setIfInBounds_toArray, List.set_cons_zero, List.set_cons_succ]
  refine takeW 27 { dst := some 30, op := Op.slice 9 (Operand.tmp 25) none (some (Operand.tmp 29)) none, type := 9, pos := "law.go:22", after := #[{ on := 22, ground := Ground.data }, { on := 26, ground := Ground.data }], guard := none } (v := ?v27) rfl (by kernel_rfl) (by kernel_rfl) (by kernel_rfl) (fun _ _ _ h => h) (by rfl) (by rfl) (fun _ => hS) ?y27 ?_
  case y27 =>
    intro w
    go_simp
    try (with_reducible rfl)
  try simp only [Act.put, List.setIfInBounds_toArray, List.set_cons_zero, List.set_cons_succ]
  refine takeW 28 { dst := some 31, op := Op.fieldAddr 27 (Operand.tmp 1) 1, type := 0, pos := "law.go:22", after := #[{ on := 0, ground := Ground.phase }, { on := 1, ground := Ground.phase }, { on := 2, ground := Ground.phase }, { on := 3, ground := Ground.phase }, { on := 4, ground := Ground.phase }, { on := 5, ground := Ground.phase }, { on := 6, ground := Ground.phase }, { on := 7, ground := Ground.phase }, { on := 8, ground := Ground.phase }, { on := 9, ground := Ground.phase }, { on := 10, ground := Ground.phase }, { on := 11, ground := Ground.textOnly Departure.lateStoresUnsure }, { on := 12, ground := Ground.textOnly Departure.lateStoresUnsure }, { on := 13, ground := Ground.textOnly Departure.lateStoresUnsure }, { on := 14, ground := Ground.phase }, { on := 15, ground := Ground.phase }, { on := 16, ground := Ground.phase }, { on := 17, ground := Ground.phase }, { on := 18, ground := Ground.textOnly Departure.lateStoresUnsure }, { on := 19, ground := Ground.textOnly Departure.lateStoresUnsure }, { on := 20, ground := Ground.textOnly Departure.lateStoresUnsure }, { on := 21, ground := Ground.phase }, { on := 22, ground := Ground.phase }, { on := 23, ground := Ground.phase }, { on := 24, ground := Ground.phase }, { on := 25, ground := Ground.textOnly Departure.lateStoresUnsure }, { on := 26, ground := Ground.textOnly Departure.lateStoresUnsure }, { on := 27, ground := Ground.textOnly Departure.lateStoresUnsure }], guard := none } (v := ?v28) rfl (by kernel_rfl) (by kernel_rfl) (by kernel_rfl) (fun _ _ _ h => h) (by rfl) (by rfl) (fun _ => hS) ?y28 ?_
  case y28 =>
    intro w
    go_simp
    try (with_reducible rfl)
  try simp only [Act.put, List.setIfInBounds_toArray, List.set_cons_zero, List.set_cons_succ]
  refine oneB (i := 29) (o := { dst := none, op := Op.store 9 (Operand.tmp 31) (Operand.tmp 9), type := 0, pos := "law.go:22", after := #[{ on := 28, ground := Ground.data }, { on := 6, ground := Ground.data }, { on := 0, ground := Ground.phase }, { on := 1, ground := Ground.phase }, { on := 2, ground := Ground.phase }, { on := 3, ground := Ground.phase }, { on := 4, ground := Ground.phase }, { on := 5, ground := Ground.phase }, { on := 6, ground := Ground.phase }, { on := 7, ground := Ground.phase }, { on := 8, ground := Ground.phase }, { on := 9, ground := Ground.phase }, { on := 10, ground := Ground.phase }, { on := 11, ground := Ground.textOnly Departure.lateStoresUnsure }, { on := 12, ground := Ground.textOnly Departure.lateStoresUnsure }, { on := 13, ground := Ground.textOnly Departure.lateStoresUnsure }, { on := 14, ground := Ground.phase }, { on := 15, ground := Ground.phase }, { on := 16, ground := Ground.phase }, { on := 17, ground := Ground.phase }, { on := 18, ground := Ground.textOnly Departure.lateStoresUnsure }, { on := 19, ground := Ground.textOnly Departure.lateStoresUnsure }, { on := 20, ground := Ground.textOnly Departure.lateStoresUnsure }, { on := 21, ground := Ground.phase }, { on := 22, ground := Ground.phase }, { on := 23, ground := Ground.phase }, { on := 24, ground := Ground.phase }, { on := 25, ground := Ground.textOnly Departure.lateStoresUnsure }, { on := 26, ground := Ground.textOnly Departure.lateStoresUnsure }, { on := 27, ground := Ground.textOnly Departure.lateStoresUnsure }], guard := none }) (by kernel_rfl) rfl (by rfl) (fun K hK => ?_)
  go_simp
  refine hK.out _ _ (fun h => by cases h) ?_
  clear hK K
  try simp only [Act.put, List.setIfInBounds_toArray, List.set_cons_zero, List.set_cons_succ]
  refine takeW 30 { dst := some 32, op := Op.fieldAddr 27 (Operand.tmp 1) 2, type := 0, pos := "law.go:22", after := #[{ on := 0, ground := Ground.phase }, { on := 1, ground := Ground.phase }, { on := 2, ground := Ground.phase }, { on := 3, ground := Ground.phase }, { on := 4, ground := Ground.phase }, { on := 5, ground := Ground.phase }, { on := 6, ground := Ground.phase }, { on := 7, ground := Ground.phase }, { on := 8, ground := Ground.phase }, { on := 9, ground := Ground.phase }, { on := 10, ground := Ground.phase }, { on := 11, ground := Ground.phase }, { on := 12, ground := Ground.phase }, { on := 13, ground := Ground.phase }, { on := 14, ground := Ground.phase }, { on := 15, ground := Ground.phase }, { on := 16, ground := Ground.phase }, { on := 17, ground := Ground.phase }, { on := 18, ground := Ground.textOnly Departure.lateStoresUnsure }, { on := 19, ground := Ground.textOnly Departure.lateStoresUnsure }, { on := 20, ground := Ground.textOnly Departure.lateStoresUnsure }, { on := 21, ground := Ground.phase }, { on := 22, ground := Ground.phase }, { on := 23, ground := Ground.phase }, { on := 24, ground := Ground.phase }, { on := 25, ground := Ground.textOnly Departure.lateStoresUnsure }, { on := 26, ground := Ground.textOnly Departure.lateStoresUnsure }, { on := 27, ground := Ground.textOnly Departure.lateStoresUnsure }, { on := 28, ground := Ground.phase }, { on := 29, ground := Ground.phase }], guard := none } (v := ?v30) rfl (by kernel_rfl) (by kernel_rfl) (by kernel_rfl) (fun _ _ _ h => h) (by rfl) (by rfl) (fun h => by cases h) ?y30 ?_
  case y30 =>
    intro w
    go_simp
    try (with_reducible rfl)
  try simp only [Act.put, List.setIfInBounds_toArray, List.set_cons_zero, List.set_cons_succ]
  refine oneB (i := 31) (o := { dst := none, op := Op.store 9 (Operand.tmp 32) (Operand.tmp 16), type := 0, pos := "law.go:22", after := #[{ on := 30, ground := Ground.data }, { on := 13, ground := Ground.data }, { on := 29, ground := Ground.chain }, { on := 0, ground := Ground.phase }, { on := 1, ground := Ground.phase }, { on := 2, ground := Ground.phase }, { on := 3, ground := Ground.phase }, { on := 4, ground := Ground.phase }, { on := 5, ground := Ground.phase }, { on := 6, ground := Ground.phase }, { on := 7, ground := Ground.phase }, { on := 8, ground := Ground.phase }, { on := 9, ground := Ground.phase }, { on := 10, ground := Ground.phase }, { on := 11, ground := Ground.phase }, { on := 12, ground := Ground.phase }, { on := 13, ground := Ground.phase }, { on := 14, ground := Ground.phase }, { on := 15, ground := Ground.phase }, { on := 16, ground := Ground.phase }, { on := 17, ground := Ground.phase }, { on := 18, ground := Ground.textOnly Departure.lateStoresUnsure }, { on := 19, ground := Ground.textOnly Departure.lateStoresUnsure }, { on := 20, ground := Ground.textOnly Departure.lateStoresUnsure }, { on := 21, ground := Ground.phase }, { on := 22, ground := Ground.phase }, { on := 23, ground := Ground.phase }, { on := 24, ground := Ground.phase }, { on := 25, ground := Ground.textOnly Departure.lateStoresUnsure }, { on := 26, ground := Ground.textOnly Departure.lateStoresUnsure }, { on := 27, ground := Ground.textOnly Departure.lateStoresUnsure }, { on := 28, ground := Ground.phase }, { on := 29, ground := Ground.phase }], guard := none }) (by kernel_rfl) rfl (by rfl) (fun K hK => ?_)
  go_simp
  refine hK.out _ _ (fun h => by cases h) ?_
  clear hK K
  try simp only [Act.put, List.setIfInBounds_toArray, List.set_cons_zero, List.set_cons_succ]
  refine takeW 32 { dst := some 33, op := Op.fieldAddr 27 (Operand.tmp 1) 3, type := 0, pos := "law.go:22", after := #[{ on := 0, ground := Ground.phase }, { on := 1, ground := Ground.phase }, { on := 2, ground := Ground.phase }, { on := 3, ground := Ground.phase }, { on := 4, ground := Ground.phase }, { on := 5, ground := Ground.phase }, { on := 6, ground := Ground.phase }, { on := 7, ground := Ground.phase }, { on := 8, ground := Ground.phase }, { on := 9, ground := Ground.phase }, { on := 10, ground := Ground.phase }, { on := 11, ground := Ground.phase }, { on := 12, ground := Ground.phase }, { on := 13, ground := Ground.phase }, { on := 14, ground := Ground.phase }, { on := 15, ground := Ground.phase }, { on := 16, ground := Ground.phase }, { on := 17, ground := Ground.phase }, { on := 18, ground := Ground.phase }, { on := 19, ground := Ground.phase }, { on := 20, ground := Ground.phase }, { on := 21, ground := Ground.phase }, { on := 22, ground := Ground.phase }, { on := 23, ground := Ground.phase }, { on := 24, ground := Ground.phase }, { on := 25, ground := Ground.textOnly Departure.lateStoresUnsure }, { on := 26, ground := Ground.textOnly Departure.lateStoresUnsure }, { on := 27, ground := Ground.textOnly Departure.lateStoresUnsure }, { on := 28, ground := Ground.phase }, { on := 29, ground := Ground.phase }, { on := 30, ground := Ground.phase }, { on := 31, ground := Ground.phase }], guard := none } (v := ?v32) rfl (by kernel_rfl) (by kernel_rfl) (by kernel_rfl) (fun _ _ _ h => h) (by rfl) (by rfl) (fun h => by cases h) ?y32 ?_
  case y32 =>
    intro w
    go_simp
    try (with_reducible rfl)
  try simp only [Act.put, List.setIfInBounds_toArray, List.set_cons_zero, List.set_cons_succ]
  refine oneB (i := 33) (o := { dst := none, op := Op.store 9 (Operand.tmp 33) (Operand.tmp 23), type := 0, pos := "law.go:22", after := #[{ on := 32, ground := Ground.data }, { on := 20, ground := Ground.data }, { on := 31, ground := Ground.chain }, { on := 0, ground := Ground.phase }, { on := 1, ground := Ground.phase }, { on := 2, ground := Ground.phase }, { on := 3, ground := Ground.phase }, { on := 4, ground := Ground.phase }, { on := 5, ground := Ground.phase }, { on := 6, ground := Ground.phase }, { on := 7, ground := Ground.phase }, { on := 8, ground := Ground.phase }, { on := 9, ground := Ground.phase }, { on := 10, ground := Ground.phase }, { on := 11, ground := Ground.phase }, { on := 12, ground := Ground.phase }, { on := 13, ground := Ground.phase }, { on := 14, ground := Ground.phase }, { on := 15, ground := Ground.phase }, { on := 16, ground := Ground.phase }, { on := 17, ground := Ground.phase }, { on := 18, ground := Ground.phase }, { on := 19, ground := Ground.phase }, { on := 20, ground := Ground.phase }, { on := 21, ground := Ground.phase }, { on := 22, ground := Ground.phase }, { on := 23, ground := Ground.phase }, { on := 24, ground := Ground.phase }, { on := 25, ground := Ground.textOnly Departure.lateStoresUnsure }, { on := 26, ground := Ground.textOnly Departure.lateStoresUnsure }, { on := 27, ground := Ground.textOnly Departure.lateStoresUnsure }, { on := 28, ground := Ground.phase }, { on := 29, ground := Ground.phase }, { on := 30, ground := Ground.phase }, { on := 31, ground := Ground.phase }], guard := none }) (by kernel_rfl) rfl (by rfl) (fun K hK => ?_)
  go_simp
  refine hK.out _ _ (fun h => by cases h) ?_
  clear hK K
  try simp only [Act.put, List.setIfInBounds_toArray, List.set_cons_zero, List.set_cons_succ]
  refine takeW 34 { dst := some 34, op := Op.fieldAddr 27 (Operand.tmp 1) 4, type := 0, pos := "law.go:22", after := #[{ on := 0, ground := Ground.phase }, { on := 1, ground := Ground.phase }, { on := 2, ground := Ground.phase }, { on := 3, ground := Ground.phase }, { on := 4, ground := Ground.phase }, { on := 5, ground := Ground.phase }, { on := 6, ground := Ground.phase }, { on := 7, ground := Ground.phase }, { on := 8, ground := Ground.phase }, { on := 9, ground := Ground.phase }, { on := 10, ground := Ground.phase }, { on := 11, ground := Ground.phase }, { on := 12, ground := Ground.phase }, { on := 13, ground := Ground.phase }, { on := 14, ground := Ground.phase }, { on := 15, ground := Ground.phase }, { on := 16, ground := Ground.phase }, { on := 17, ground := Ground.phase }, { on := 18, ground := Ground.phase }, { on := 19, ground := Ground.phase }, { on := 20, ground := Ground.phase }, { on := 21, ground := Ground.phase }, { on := 22, ground := Ground.phase }, { on := 23, ground := Ground.phase }, { on := 24, ground := Ground.phase }, { on := 25, ground := Ground.phase }, { on := 26, ground := Ground.phase }, { on := 27, ground := Ground.phase }, { on := 28, ground := Ground.phase }, { on := 29, ground := Ground.phase }, { on := 30, ground := Ground.phase }, { on := 31, ground := Ground.phase }, { on := 32, ground := Ground.phase }, { on := 33, ground := Ground.phase }], guard := none } (v := ?v34) rfl (by kernel_rfl) (by kernel_rfl) (by kernel_rfl) (fun _ _ _ h => h) (by rfl) (by rfl) (fun h => by cases h) ?y34 ?_
  case y34 =>
    intro w
    go_simp
    try (with_reducible rfl)
  try simp only [Act.put, List.setIfInBounds_toArray, List.set_cons_zero, List.set_cons_succ]
  refine oneB (i := 35) (o := { dst := none, op := Op.store 9 (Operand.tmp 34) (Operand.tmp 30), type := 0, pos := "law.go:22", after := #[{ on := 34, ground := Ground.data }, { on := 27, ground := Ground.data }, { on := 33, ground := Ground.chain }, { on := 0, ground := Ground.phase }, { on := 1, ground := Ground.phase }, { on := 2, ground := Ground.phase }, { on := 3, ground := Ground.phase }, { on := 4, ground := Ground.phase }, { on := 5, ground := Ground.phase }, { on := 6, ground := Ground.phase }, { on := 7, ground := Ground.phase }, { on := 8, ground := Ground.phase }, { on := 9, ground := Ground.phase }, { on := 10, ground := Ground.phase }, { on := 11, ground := Ground.phase }, { on := 12, ground := Ground.phase }, { on := 13, ground := Ground.phase }, { on := 14, ground := Ground.phase }, { on := 15, ground := Ground.phase }, { on := 16, ground := Ground.phase }, { on := 17, ground := Ground.phase }, { on := 18, ground := Ground.phase }, { on := 19, ground := Ground.phase }, { on := 20, ground := Ground.phase }, { on := 21, ground := Ground.phase }, { on := 22, ground := Ground.phase }, { on := 23, ground := Ground.phase }, { on := 24, ground := Ground.phase }, { on := 25, ground := Ground.phase }, { on := 26, ground := Ground.phase }, { on := 27, ground := Ground.phase }, { on := 28, ground := Ground.phase }, { on := 29, ground := Ground.phase }, { on := 30, ground := Ground.phase }, { on := 31, ground := Ground.phase }, { on := 32, ground := Ground.phase }, { on := 33, ground := Ground.phase }], guard := none }) (by kernel_rfl) rfl (by rfl) (fun K hK => ?_)
  go_simp
  refine hK.out _ _ (fun h => by cases h) ?_
  clear hK K
  try simp only [Act.put, List.setIfInBounds_toArray, List.set_cons_zero, List.set_cons_succ]
  refine doneB (by kernel_rfl) ?_ _
  refine then_w ?_
  intro W4 hW4
  have k1 : Blk W4 w.heap.size #[.int .i64 k, .string (a.extract 0 qa), .string (b.extract 0 qb), .string (c.extract 0 qc), .string (d.extract 0 qd)] 27 := by
    rw [hW4]
    have := (((B1.out.set 1 (.string (a.extract 0 qa))).set 2 (.string (b.extract 0 qb))).set 3 (.string (c.extract 0 qc))).set 4 (.string (d.extract 0 qd))
    simp only [List.setIfInBounds_toArray, List.set_cons_zero, List.set_cons_succ] at this
    exact this
  have k2 : Blk W4 (w.heap.size + 1) #[.int .i64 0, .string ⟨#[]⟩, .string ⟨#[]⟩, .string ⟨#[]⟩, .string ⟨#[]⟩] 27 := by
    rw [hW4]
    exact (((B2.out.other (by simp) _).other (by simp) _).other (by simp) _).other (by simp) _
  have G4 := Lib.hid (show Below w.heap.size w W4 by
    rw [hW4]
    exact ((((G1.out.setCell (Nat.le_refl _) _).setCell (Nat.le_refl _) _).setCell (Nat.le_refl _) _).setCell (Nat.le_refl _) _).drew)
  clear hW4 c0 c1 c2 c3 c4 f1 f2 f3 f4 l1 hS B1 B2 G1
  obtain ⟨c0, c1, c2, c3, c4⟩ := k1.five
  have l1 := k1.lt
  obtain ⟨d0, d1, d2, d3, d4⟩ := k2.five
  obtain ⟨z0, z1, z2, z3, z4⟩ : W4.frozen? ⟨w.heap.size + 1, 0, none⟩ = false ∧ W4.frozen? ⟨w.heap.size + 1, 1, none⟩ = false ∧ W4.frozen? ⟨w.heap.size + 1, 2, none⟩ = false ∧ W4.frozen? ⟨w.heap.size + 1, 3, none⟩ = false ∧ W4.frozen? ⟨w.heap.size + 1, 4, none⟩ = false := ⟨k2.frozen 0, k2.frozen 1, k2.frozen 2, k2.frozen 3, k2.frozen 4⟩
  have l2 := k2.lt
  have K2 := Lib.hid k2
  have HC := Lib.hid (show cutC ⟨k, a, b, c, d⟩ = ⟨k, a.extract 0 qa, b.extract 0 qb, c.extract 0 qc, d.extract 0 qd⟩ by simp only [cutC, cutS, EA.out, EB.out, EC.out, ED.out])
  clear k1 k2 EA EB EC ED ma mb mc md la lb lc ld ha hb hc hd
  go_wp2
  have kf := ((((K2.out.set 0 (.int .i64 k)).set 1 (.string (a.extract 0 qa))).set 2 (.string (b.extract 0 qb))).set 3 (.string (c.extract 0 qc))).set 4 (.string (d.extract 0 qd))
  simp only [List.setIfInBounds_toArray, List.set_cons_zero, List.set_cons_succ] at kf
  obtain ⟨r0, r1, r2, r3, r4⟩ := kf.five
  rw [HC.out]
  exact bodyPost_ret (v := CV ⟨k, a.extract 0 qa, b.extract 0 qb, c.extract 0 qc, d.extract 0 qd⟩) (by simp [results, Try.results23, go_sem, r0, r1, r2, r3, r4]) rfl ⟨rfl, ((((G4.out.setCell (by simp) _).setCell (by simp) _).setCell (by simp) _).setCell (by simp) _).setCell (by simp) _⟩
end Go.Proofs.Ytoajaacdhkknfaa

