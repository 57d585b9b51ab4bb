import Derived.Test.YtifhfeldjfcbfaaMC
import Derived.Test.YtifhfeldjfcbfaaM19
/- merge.Same of two merges that stand at one place; its region by one invariant (tools/gen_m21.py). -/
namespace Go.Proofs.Ytifhfeldjfcbfaa
open Go.RowKit Go.Proofs.Kit Go.Shelf
structure SMI (w0 : World) (bx by1 : Nat) (x y z x' y' z' : Ti) (t u A : Tr) (M : List Tr) (o r : Bool) (k : Int) (L : Nat → Bool) (w : World) (t4 t5 t6 t7 t8 t9 t10 t11 t12 t13 t14 t15 t16 t17 t18 t19 t20 t21 t22 t23 : Value) (s1 : Option Addr) (l1 : Nat) (c1 : Nat) (s2 : Option Addr) (l2 : Nat) (c2 : Nat) : Prop where
  low : Below w0.heap.size w0 w
  kx : Blk w bx (mgV x y z o k) 26
  ky : Blk w by1 (mgV x' y' z' o k) 26
  h0 : L 0 = true → t5 = .pointer (some ⟨bx, 4, none⟩)
  h1 : L 1 = true → t6 = .bool o
  h2 : L 2 = true → t7 = .pointer (some ⟨by1, 4, none⟩)
  h3 : L 3 = true → t8 = .bool o
  h4 : L 4 = true → t9 = .bool true
  h5 : L 5 = true → t10 = .bool true
  h6 : L 6 = true → t11 = .pointer (some ⟨bx, 5, none⟩)
  h7 : L 7 = true → t12 = .int .i64 k
  h8 : L 8 = true → t13 = .pointer (some ⟨by1, 5, none⟩)
  h9 : L 9 = true → t14 = .int .i64 k
  h10 : L 10 = true → t15 = .bool true
  h11 : L 11 = true → t16 = .bool true
  h12 : L 12 = true → t17 = .bool true
  h13 : L 13 = true → t18 = .agg (mgV x y z o k)
  h14 : L 14 = true → t19 = .slice s1 l1 c1 ∧ SegT w (.slice s1 l1 c1) [t, u, A]
  h15 : L 15 = true → t20 = .agg (mgV x' y' z' o k)
  h16 : L 16 = true → t21 = .slice s2 l2 c2 ∧ SegT w (.slice s2 l2 c2) M
  h17 : L 17 = true → t22 = .bool r
  h18 : L 18 = true → t23 = .bool r
  h19 : L 19 = true → t4 = .bool r
def SMV (w0 : World) (bx by1 : Nat) (x y z x' y' z' : Ti) (t u A : Tr) (M : List Tr) (o r : Bool) (k : Int) (L : Nat → Bool) (a : Act) (X : World) : Prop :=
  ∃ t4 t5 t6 t7 t8 t9 t10 t11 t12 t13 t14 t15 t16 t17 t18 t19 t20 t21 t22 t23 s1 l1 c1 s2 l2 c2, a = { tmps := #[.agg (mgV x y z o k), .agg (mgV x' y' z' o k), .pointer (some ⟨bx, 0, none⟩), .pointer (some ⟨by1, 0, none⟩), t4, t5, t6, t7, t8, t9, t10, t11, t12, t13, t14, t15, t16, t17, t18, t19, t20, t21, t22, t23], defers := [] } ∧ SMI w0 bx by1 x y z x' y' z' t u A M o r k L X t4 t5 t6 t7 t8 t9 t10 t11 t12 t13 t14 t15 t16 t17 t18 t19 t20 t21 t22 t23 s1 l1 c1 s2 l2 c2
set_option maxRecDepth 100000 in
set_option maxHeartbeats 32000000 in
theorem SM_region {Q : Exit → Act → World → Prop} (w0 : World) (bx by1 : Nat) (x y z x' y' z' : Ti) (t u A : Tr) (M : List Tr) (o r : Bool) (k : Int) (W : World) (a : Act) (ha : a = { tmps := #[.agg (mgV x y z o k), .agg (mgV x' y' z' o k), .pointer (some ⟨bx, 0, none⟩), .pointer (some ⟨by1, 0, none⟩), (.bool false), undef, undef, undef, undef, undef, undef, undef, undef, undef, undef, undef, undef, undef, undef, undef, undef, undef, undef, undef], defers := [] }) (hlow : Below w0.heap.size w0 W) (hkx : Blk W bx (mgV x y z o k) 26) (hky : Blk W by1 (mgV x' y' z' o k) 26) (hr : Hid (r = decide ([t, u, A] = M)))
    (HP1 : Hid (∀ W, Below w0.heap.size w0 W → Calls Try.prog 37 #[.agg (mgV x y z o k)] W fun e w' => ∃ v, e = .returned v ∧ SegT w' v [t, u, A] ∧ Gr W w'))
    (HP2 : Hid (∀ W, Below w0.heap.size w0 W → Calls Try.prog 37 #[.agg (mgV x' y' z' o k)] W fun e w' => ∃ v, e = .returned v ∧ SegT w' v M ∧ Gr W w'))
    (hQ : ∀ L t4 t5 t6 t7 t8 t9 t10 t11 t12 t13 t14 t15 t16 t17 t18 t19 t20 t21 t22 t23 s1 l1 c1 s2 l2 c2 X, (∀ i, i < 20 → L i = true) → SMI w0 bx by1 x y z x' y' z' t u A M o r k L X t4 t5 t6 t7 t8 t9 t10 t11 t12 t13 t14 t15 t16 t17 t18 t19 t20 t21 t22 t23 s1 l1 c1 s2 l2 c2 → Q .normal { tmps := #[.agg (mgV x y z o k), .agg (mgV x' y' z' o k), .pointer (some ⟨bx, 0, none⟩), .pointer (some ⟨by1, 0, none⟩), t4, t5, t6, t7, t8, t9, t10, t11, t12, t13, t14, t15, t16, t17, t18, t19, t20, t21, t22, t23], defers := [] } X) :
    (Code.region 1 #[{ dst := some 5, op := Op.fieldAddr 26 (Operand.tmp 2) 2, type := 0, pos := "merge.go:27", after := #[], guard := none }, { dst := some 6, op := Op.load 4 (Operand.tmp 5), type := 4, pos := "merge.go:27", after := #[{ on := 0, ground := Ground.data }], guard := none }, { dst := some 7, op := Op.fieldAddr 26 (Operand.tmp 3) 2, type := 0, pos := "merge.go:27", after := #[], guard := none }, { dst := some 8, op := Op.load 4 (Operand.tmp 7), type := 4, pos := "merge.go:27", after := #[{ on := 2, ground := Ground.data }], guard := none }, { dst := some 9, op := Op.binOp BinOp.eql 4 (Operand.tmp 6) (Operand.tmp 8) 4, type := 4, pos := "merge.go:27", after := #[{ on := 1, ground := Ground.data }, { on := 3, ground := Ground.data }], guard := none }, { dst := some 10, op := Op.move (Operand.tmp 9), type := 4, pos := "merge.go:27", after := #[{ on := 4, ground := Ground.data }], guard := none }, { dst := some 11, op := Op.fieldAddr 26 (Operand.tmp 2) 3, type := 0, pos := "merge.go:27", after := #[{ on := 5, ground := Ground.guard }], guard := some (5, true) }, { dst := some 12, op := Op.load 3 (Operand.tmp 11), type := 3, pos := "merge.go:27", after := #[{ on := 6, ground := Ground.data }, { on := 5, ground := Ground.guard }], guard := some (5, true) }, { dst := some 13, op := Op.fieldAddr 26 (Operand.tmp 3) 3, type := 0, pos := "merge.go:27", after := #[{ on := 5, ground := Ground.guard }], guard := some (5, true) }, { dst := some 14, op := Op.load 3 (Operand.tmp 13), type := 3, pos := "merge.go:27", after := #[{ on := 8, ground := Ground.data }, { on := 5, ground := Ground.guard }], guard := some (5, true) }, { dst := some 15, op := Op.binOp BinOp.eql 3 (Operand.tmp 12) (Operand.tmp 14) 3, type := 4, pos := "merge.go:27", after := #[{ on := 7, ground := Ground.data }, { on := 9, ground := Ground.data }, { on := 5, ground := Ground.guard }], guard := some (5, true) }, { dst := some 16, op := Op.pick (Operand.tmp 10) (Operand.tmp 15) (Operand.const (Value.bool false)), type := 4, pos := "merge.go:27", after := #[{ on := 5, ground := Ground.data }, { on := 10, ground := Ground.data }], guard := none }, { dst := some 17, op := Op.move (Operand.tmp 16), type := 4, pos := "merge.go:27", after := #[{ on := 11, ground := Ground.data }, { on := 5, ground := Ground.chain }], guard := none }, { dst := some 18, op := Op.load 26 (Operand.tmp 2), type := 26, pos := "merge.go:27", after := #[{ on := 12, ground := Ground.guard }], guard := some (12, true) }, { dst := some 19, op := Op.call { callee := Callee.value (Operand.func 37), args := #[Operand.tmp 18], argTypes := #[26] }, type := 45, pos := "merge.go:27", after := #[{ on := 13, ground := Ground.data }, { on := 12, ground := Ground.chain }, { on := 12, ground := Ground.guard }], guard := some (12, true) }, { dst := some 20, op := Op.load 26 (Operand.tmp 3), type := 26, pos := "merge.go:27", after := #[{ on := 12, ground := Ground.guard }], guard := some (12, true) }, { dst := some 21, op := Op.call { callee := Callee.value (Operand.func 37), args := #[Operand.tmp 20], argTypes := #[26] }, type := 45, pos := "merge.go:27", after := #[{ on := 15, ground := Ground.data }, { on := 14, ground := Ground.chain }, { on := 12, ground := Ground.guard }], guard := some (12, true) }, { dst := some 22, op := Op.call { callee := Callee.value (Operand.func 26), args := #[Operand.tmp 19, Operand.tmp 21], argTypes := #[45, 45] }, type := 4, pos := "merge.go:27", after := #[{ on := 14, ground := Ground.data }, { on := 16, ground := Ground.data }, { on := 16, ground := Ground.chain }, { on := 12, ground := Ground.guard }], guard := some (12, true) }, { dst := some 23, op := Op.pick (Operand.tmp 17) (Operand.tmp 22) (Operand.const (Value.bool false)), type := 4, pos := "merge.go:27", after := #[{ on := 12, ground := Ground.data }, { on := 17, ground := Ground.data }], guard := none }, { dst := some 4, op := Op.assign (Operand.tmp 23), type := 4, pos := "merge.go:27", after := #[{ on := 18, ground := Ground.data }, { on := 17, ground := Ground.chain }, { on := 0, ground := Ground.phase }, { on := 1, ground := Ground.phase }, { on := 2, ground := Ground.phase }, { on := 3, ground := Ground.phase }, { on := 4, ground := Ground.phase }, { on := 5, ground := Ground.phase }, { on := 6, ground := Ground.phase }, { on := 7, ground := Ground.phase }, { on := 8, ground := Ground.phase }, { on := 9, ground := Ground.phase }, { on := 10, ground := Ground.phase }, { on := 11, ground := Ground.phase }, { on := 12, ground := Ground.phase }, { on := 13, ground := Ground.phase }, { on := 14, ground := Ground.phase }, { on := 15, ground := Ground.phase }, { on := 16, ground := Ground.phase }, { on := 17, ground := Ground.phase }, { on := 18, ground := Ground.phase }], guard := none }] true).wp Try.prog Q a W := by
  have hmix := mixed
  refine wp_region_inv hmix (Inv := SMV w0 bx by1 x y z x' y' z' t u A M o r k) (by kernel_rfl) ?h0 ?hstep ?hdone
  case h0 =>
    subst ha
    exact ⟨(.bool false), undef, undef, undef, undef, undef, undef, undef, undef, undef, undef, undef, undef, undef, undef, undef, undef, undef, undef, undef, none, 0, 0, none, 0, 0, rfl, ⟨hlow.drew, hkx.drew, hky.drew, nofun, nofun, nofun, nofun, nofun, nofun, nofun, nofun, nofun, nofun, nofun, nofun, nofun, nofun, nofun, nofun, nofun, nofun, nofun, nofun⟩⟩
  case hdone =>
    rintro L a X ⟨t4, t5, t6, t7, t8, t9, t10, t11, t12, t13, t14, t15, t16, t17, t18, t19, t20, t21, t22, t23, s1, l1, c1, s2, l2, c2, rfl, h⟩ hall
    exact hQ L t4 t5 t6 t7 t8 t9 t10 t11 t12 t13 t14 t15 t16 t17 t18 t19 t20 t21 t22 t23 s1 l1 c1 s2 l2 c2 X hall h
  case hstep =>
    clear hQ ha
    rintro L a X i op ⟨t4, t5, t6, t7, t8, t9, t10, t11, t12, t13, t14, t15, t16, t17, t18, t19, t20, t21, t22, t23, s1, l1, c1, s2, l2, c2, rfl, h⟩ hL ho hp
    have hi : i < 20 := (Array.getElem?_eq_some_iff.1 ho).1
    match i, hi, hL, ho, hp with
    | 0, _, hL, ho, hp =>
      simp only [List.getElem?_toArray, List.getElem?_cons_zero, Option.some.injEq] at ho
      subst ho
      rw [if_pos (by rfl)]
      go_simp
      exact ⟨_, _, _, _, _, _, _, _, _, _, _, _, _, _, _, _, _, _, _, _, s1, l1, c1, s2, l2, c2, rfl, ⟨h.low, h.kx, h.ky, fun _ => rfl, h.h1, h.h2, h.h3, h.h4, h.h5, h.h6, h.h7, h.h8, h.h9, h.h10, h.h11, h.h12, h.h13, h.h14, h.h15, h.h16, h.h17, h.h18, h.h19⟩⟩
    | 1, _, hL, ho, hp =>
      simp only [List.getElem?_toArray, List.getElem?_cons_zero, List.getElem?_cons_succ, Option.some.injEq] at ho
      subst ho
      have p0 : L 0 = true := hp ⟨0, .data⟩ (by simp) rfl
      obtain rfl := h.h0 p0
      rw [if_pos (by rfl)]
      have ckx4 := h.kx.cell 4
      have lkx := h.kx.lt
      simp only [mgV, List.getElem?_toArray, List.getElem?_cons_zero, List.getElem?_cons_succ] at ckx4
      go_simp
      exact ⟨_, _, _, _, _, _, _, _, _, _, _, _, _, _, _, _, _, _, _, _, s1, l1, c1, s2, l2, c2, rfl, ⟨h.low, h.kx, h.ky, h.h0, fun _ => rfl, h.h2, h.h3, h.h4, h.h5, h.h6, h.h7, h.h8, h.h9, h.h10, h.h11, h.h12, h.h13, h.h14, h.h15, h.h16, h.h17, h.h18, h.h19⟩⟩
    | 2, _, hL, ho, hp =>
      simp only [List.getElem?_toArray, List.getElem?_cons_zero, List.getElem?_cons_succ, Option.some.injEq] at ho
      subst ho
      rw [if_pos (by rfl)]
      go_simp
      exact ⟨_, _, _, _, _, _, _, _, _, _, _, _, _, _, _, _, _, _, _, _, s1, l1, c1, s2, l2, c2, rfl, ⟨h.low, h.kx, h.ky, h.h0, h.h1, fun _ => rfl, h.h3, h.h4, h.h5, h.h6, h.h7, h.h8, h.h9, h.h10, h.h11, h.h12, h.h13, h.h14, h.h15, h.h16, h.h17, h.h18, h.h19⟩⟩
    | 3, _, hL, ho, hp =>
      simp only [List.getElem?_toArray, List.getElem?_cons_zero, List.getElem?_cons_succ, Option.some.injEq] at ho
      subst ho
      have p2 : L 2 = true := hp ⟨2, .data⟩ (by simp) rfl
      obtain rfl := h.h2 p2
      rw [if_pos (by rfl)]
      have cky4 := h.ky.cell 4
      have lky := h.ky.lt
      simp only [mgV, List.getElem?_toArray, List.getElem?_cons_zero, List.getElem?_cons_succ] at cky4
      go_simp
      exact ⟨_, _, _, _, _, _, _, _, _, _, _, _, _, _, _, _, _, _, _, _, s1, l1, c1, s2, l2, c2, rfl, ⟨h.low, h.kx, h.ky, h.h0, h.h1, h.h2, fun _ => rfl, h.h4, h.h5, h.h6, h.h7, h.h8, h.h9, h.h10, h.h11, h.h12, h.h13, h.h14, h.h15, h.h16, h.h17, h.h18, h.h19⟩⟩
    | 4, _, hL, ho, hp =>
      simp only [List.getElem?_toArray, List.getElem?_cons_zero, List.getElem?_cons_succ, Option.some.injEq] at ho
      subst ho
      have p1 : L 1 = true := hp ⟨1, .data⟩ (by simp) rfl
      obtain rfl := h.h1 p1
      have p3 : L 3 = true := hp ⟨3, .data⟩ (by simp) rfl
      obtain rfl := h.h3 p3
      rw [if_pos (by rfl)]
      go_simp
      exact ⟨_, _, _, _, _, _, _, _, _, _, _, _, _, _, _, _, _, _, _, _, s1, l1, c1, s2, l2, c2, rfl, ⟨h.low, h.kx, h.ky, h.h0, h.h1, h.h2, h.h3, fun _ => rfl, h.h5, h.h6, h.h7, h.h8, h.h9, h.h10, h.h11, h.h12, h.h13, h.h14, h.h15, h.h16, h.h17, h.h18, h.h19⟩⟩
    | 5, _, hL, ho, hp =>
      simp only [List.getElem?_toArray, List.getElem?_cons_zero, List.getElem?_cons_succ, Option.some.injEq] at ho
      subst ho
      have p4 : L 4 = true := hp ⟨4, .data⟩ (by simp) rfl
      obtain rfl := h.h4 p4
      rw [if_pos (by rfl)]
      go_simp
      exact ⟨_, _, _, _, _, _, _, _, _, _, _, _, _, _, _, _, _, _, _, _, s1, l1, c1, s2, l2, c2, rfl, ⟨h.low, h.kx, h.ky, h.h0, h.h1, h.h2, h.h3, h.h4, fun _ => rfl, h.h6, h.h7, h.h8, h.h9, h.h10, h.h11, h.h12, h.h13, h.h14, h.h15, h.h16, h.h17, h.h18, h.h19⟩⟩
    | 6, _, hL, ho, hp =>
      simp only [List.getElem?_toArray, List.getElem?_cons_zero, List.getElem?_cons_succ, Option.some.injEq] at ho
      subst ho
      have p5 : L 5 = true := hp ⟨5, .guard⟩ (by simp) rfl
      obtain rfl := h.h5 p5
      rw [if_pos (by rfl)]
      go_simp
      exact ⟨_, _, _, _, _, _, _, _, _, _, _, _, _, _, _, _, _, _, _, _, s1, l1, c1, s2, l2, c2, rfl, ⟨h.low, h.kx, h.ky, h.h0, h.h1, h.h2, h.h3, h.h4, h.h5, fun _ => rfl, h.h7, h.h8, h.h9, h.h10, h.h11, h.h12, h.h13, h.h14, h.h15, h.h16, h.h17, h.h18, h.h19⟩⟩
    | 7, _, hL, ho, hp =>
      simp only [List.getElem?_toArray, List.getElem?_cons_zero, List.getElem?_cons_succ, Option.some.injEq] at ho
      subst ho
      have p5 : L 5 = true := hp ⟨5, .guard⟩ (by simp) rfl
      obtain rfl := h.h5 p5
      have p6 : L 6 = true := hp ⟨6, .data⟩ (by simp) rfl
      obtain rfl := h.h6 p6
      rw [if_pos (by rfl)]
      have ckx5 := h.kx.cell 5
      have lkx := h.kx.lt
      simp only [mgV, List.getElem?_toArray, List.getElem?_cons_zero, List.getElem?_cons_succ] at ckx5
      go_simp
      exact ⟨_, _, _, _, _, _, _, _, _, _, _, _, _, _, _, _, _, _, _, _, s1, l1, c1, s2, l2, c2, rfl, ⟨h.low, h.kx, h.ky, h.h0, h.h1, h.h2, h.h3, h.h4, h.h5, h.h6, fun _ => rfl, h.h8, h.h9, h.h10, h.h11, h.h12, h.h13, h.h14, h.h15, h.h16, h.h17, h.h18, h.h19⟩⟩
    | 8, _, hL, ho, hp =>
      simp only [List.getElem?_toArray, List.getElem?_cons_zero, List.getElem?_cons_succ, Option.some.injEq] at ho
      subst ho
      have p5 : L 5 = true := hp ⟨5, .guard⟩ (by simp) rfl
      obtain rfl := h.h5 p5
      rw [if_pos (by rfl)]
      go_simp
      exact ⟨_, _, _, _, _, _, _, _, _, _, _, _, _, _, _, _, _, _, _, _, s1, l1, c1, s2, l2, c2, rfl, ⟨h.low, h.kx, h.ky, h.h0, h.h1, h.h2, h.h3, h.h4, h.h5, h.h6, h.h7, fun _ => rfl, h.h9, h.h10, h.h11, h.h12, h.h13, h.h14, h.h15, h.h16, h.h17, h.h18, h.h19⟩⟩
    | 9, _, hL, ho, hp =>
      simp only [List.getElem?_toArray, List.getElem?_cons_zero, List.getElem?_cons_succ, Option.some.injEq] at ho
      subst ho
      have p5 : L 5 = true := hp ⟨5, .guard⟩ (by simp) rfl
      obtain rfl := h.h5 p5
      have p8 : L 8 = true := hp ⟨8, .data⟩ (by simp) rfl
      obtain rfl := h.h8 p8
      rw [if_pos (by rfl)]
      have cky5 := h.ky.cell 5
      have lky := h.ky.lt
      simp only [mgV, List.getElem?_toArray, List.getElem?_cons_zero, List.getElem?_cons_succ] at cky5
      go_simp
      exact ⟨_, _, _, _, _, _, _, _, _, _, _, _, _, _, _, _, _, _, _, _, s1, l1, c1, s2, l2, c2, rfl, ⟨h.low, h.kx, h.ky, h.h0, h.h1, h.h2, h.h3, h.h4, h.h5, h.h6, h.h7, h.h8, fun _ => rfl, h.h10, h.h11, h.h12, h.h13, h.h14, h.h15, h.h16, h.h17, h.h18, h.h19⟩⟩
    | 10, _, hL, ho, hp =>
      simp only [List.getElem?_toArray, List.getElem?_cons_zero, List.getElem?_cons_succ, Option.some.injEq] at ho
      subst ho
      have p5 : L 5 = true := hp ⟨5, .guard⟩ (by simp) rfl
      obtain rfl := h.h5 p5
      have p7 : L 7 = true := hp ⟨7, .data⟩ (by simp) rfl
      obtain rfl := h.h7 p7
      have p9 : L 9 = true := hp ⟨9, .data⟩ (by simp) rfl
      obtain rfl := h.h9 p9
      rw [if_pos (by rfl)]
      go_simp
      exact ⟨_, _, _, _, _, _, _, _, _, _, _, _, _, _, _, _, _, _, _, _, s1, l1, c1, s2, l2, c2, rfl, ⟨h.low, h.kx, h.ky, h.h0, h.h1, h.h2, h.h3, h.h4, h.h5, h.h6, h.h7, h.h8, h.h9, fun _ => rfl, h.h11, h.h12, h.h13, h.h14, h.h15, h.h16, h.h17, h.h18, h.h19⟩⟩
    | 11, _, hL, ho, hp =>
      simp only [List.getElem?_toArray, List.getElem?_cons_zero, List.getElem?_cons_succ, Option.some.injEq] at ho
      subst ho
      have p5 : L 5 = true := hp ⟨5, .data⟩ (by simp) rfl
      obtain rfl := h.h5 p5
      have p10 : L 10 = true := hp ⟨10, .data⟩ (by simp) rfl
      obtain rfl := h.h10 p10
      rw [if_pos (by rfl)]
      go_simp
      exact ⟨_, _, _, _, _, _, _, _, _, _, _, _, _, _, _, _, _, _, _, _, s1, l1, c1, s2, l2, c2, rfl, ⟨h.low, h.kx, h.ky, h.h0, h.h1, h.h2, h.h3, h.h4, h.h5, h.h6, h.h7, h.h8, h.h9, h.h10, fun _ => rfl, h.h12, h.h13, h.h14, h.h15, h.h16, h.h17, h.h18, h.h19⟩⟩
    | 12, _, hL, ho, hp =>
      simp only [List.getElem?_toArray, List.getElem?_cons_zero, List.getElem?_cons_succ, Option.some.injEq] at ho
      subst ho
      have p11 : L 11 = true := hp ⟨11, .data⟩ (by simp) rfl
      obtain rfl := h.h11 p11
      rw [if_pos (by rfl)]
      go_simp
      exact ⟨_, _, _, _, _, _, _, _, _, _, _, _, _, _, _, _, _, _, _, _, s1, l1, c1, s2, l2, c2, rfl, ⟨h.low, h.kx, h.ky, h.h0, h.h1, h.h2, h.h3, h.h4, h.h5, h.h6, h.h7, h.h8, h.h9, h.h10, h.h11, fun _ => rfl, h.h13, h.h14, h.h15, h.h16, h.h17, h.h18, h.h19⟩⟩
    | 13, _, hL, ho, hp =>
      simp only [List.getElem?_toArray, List.getElem?_cons_zero, List.getElem?_cons_succ, Option.some.injEq] at ho
      subst ho
      have p12 : L 12 = true := hp ⟨12, .guard⟩ (by simp) rfl
      obtain rfl := h.h12 p12
      rw [if_pos (by rfl)]
      have ckx0 := h.kx.cell 0
      have ckx1 := h.kx.cell 1
      have ckx2 := h.kx.cell 2
      have ckx3 := h.kx.cell 3
      have ckx4 := h.kx.cell 4
      have ckx5 := h.kx.cell 5
      have ckx6 := h.kx.cell 6
      have ckx7 := h.kx.cell 7
      have lkx := h.kx.lt
      simp only [mgV, List.getElem?_toArray, List.getElem?_cons_zero, List.getElem?_cons_succ] at ckx0 ckx1 ckx2 ckx3 ckx4 ckx5 ckx6 ckx7
      go_simp
      exact ⟨_, _, _, _, _, _, _, _, _, _, _, _, _, _, _, _, _, _, _, _, s1, l1, c1, s2, l2, c2, rfl, ⟨h.low, h.kx, h.ky, h.h0, h.h1, h.h2, h.h3, h.h4, h.h5, h.h6, h.h7, h.h8, h.h9, h.h10, h.h11, h.h12, fun _ => rfl, h.h14, h.h15, h.h16, h.h17, h.h18, h.h19⟩⟩
    | 14, _, hL, ho, hp =>
      simp only [List.getElem?_toArray, List.getElem?_cons_zero, List.getElem?_cons_succ, Option.some.injEq] at ho
      subst ho
      have p12 : L 12 = true := hp ⟨12, .guard⟩ (by simp) rfl
      obtain rfl := h.h12 p12
      have p13 : L 13 = true := hp ⟨13, .data⟩ (by simp) rfl
      obtain rfl := h.h13 p13
      rw [if_pos (by rfl)]
      go_simp
      go_at_call 37
      (with_reducible refine (HP1.out _ h.low).mono ?_)
      rintro e X2 ⟨v, rfl, hs, gX⟩
      have gb := gX.below
      obtain ⟨so, sc, rfl, _, _⟩ := hs.shape
      have hlow2 := below_later h.low gb
      exact ⟨_, _, _, _, _, _, _, _, _, _, _, _, _, _, _, _, _, _, _, _, so, _, sc, s2, l2, c2, rfl, ⟨hlow2, h.kx.later gb, h.ky.later gb, h.h0, h.h1, h.h2, h.h3, h.h4, h.h5, h.h6, h.h7, h.h8, h.h9, h.h10, h.h11, h.h12, h.h13, fun _ => ⟨rfl, hs⟩, h.h15, fun e => ⟨(h.h16 e).1, (h.h16 e).2.later gb⟩, h.h17, h.h18, h.h19⟩⟩
    | 15, _, hL, ho, hp =>
      simp only [List.getElem?_toArray, List.getElem?_cons_zero, List.getElem?_cons_succ, Option.some.injEq] at ho
      subst ho
      have p12 : L 12 = true := hp ⟨12, .guard⟩ (by simp) rfl
      obtain rfl := h.h12 p12
      rw [if_pos (by rfl)]
      have cky0 := h.ky.cell 0
      have cky1 := h.ky.cell 1
      have cky2 := h.ky.cell 2
      have cky3 := h.ky.cell 3
      have cky4 := h.ky.cell 4
      have cky5 := h.ky.cell 5
      have cky6 := h.ky.cell 6
      have cky7 := h.ky.cell 7
      have lky := h.ky.lt
      simp only [mgV, List.getElem?_toArray, List.getElem?_cons_zero, List.getElem?_cons_succ] at cky0 cky1 cky2 cky3 cky4 cky5 cky6 cky7
      go_simp
      exact ⟨_, _, _, _, _, _, _, _, _, _, _, _, _, _, _, _, _, _, _, _, s1, l1, c1, s2, l2, c2, rfl, ⟨h.low, h.kx, h.ky, h.h0, h.h1, h.h2, h.h3, h.h4, h.h5, h.h6, h.h7, h.h8, h.h9, h.h10, h.h11, h.h12, h.h13, h.h14, fun _ => rfl, h.h16, h.h17, h.h18, h.h19⟩⟩
    | 16, _, hL, ho, hp =>
      simp only [List.getElem?_toArray, List.getElem?_cons_zero, List.getElem?_cons_succ, Option.some.injEq] at ho
      subst ho
      have p12 : L 12 = true := hp ⟨12, .guard⟩ (by simp) rfl
      obtain rfl := h.h12 p12
      have p15 : L 15 = true := hp ⟨15, .data⟩ (by simp) rfl
      obtain rfl := h.h15 p15
      rw [if_pos (by rfl)]
      go_simp
      go_at_call 37
      (with_reducible refine (HP2.out _ h.low).mono ?_)
      rintro e X2 ⟨v, rfl, hs, gX⟩
      have gb := gX.below
      obtain ⟨so, sc, rfl, _, _⟩ := hs.shape
      have hlow2 := below_later h.low gb
      exact ⟨_, _, _, _, _, _, _, _, _, _, _, _, _, _, _, _, _, _, _, _, s1, l1, c1, so, _, sc, rfl, ⟨hlow2, h.kx.later gb, h.ky.later gb, h.h0, h.h1, h.h2, h.h3, h.h4, h.h5, h.h6, h.h7, h.h8, h.h9, h.h10, h.h11, h.h12, h.h13, fun e => ⟨(h.h14 e).1, (h.h14 e).2.later gb⟩, h.h15, fun _ => ⟨rfl, hs⟩, h.h17, h.h18, h.h19⟩⟩
    | 17, _, hL, ho, hp =>
      simp only [List.getElem?_toArray, List.getElem?_cons_zero, List.getElem?_cons_succ, Option.some.injEq] at ho
      subst ho
      have p12 : L 12 = true := hp ⟨12, .guard⟩ (by simp) rfl
      obtain rfl := h.h12 p12
      have p14 : L 14 = true := hp ⟨14, .data⟩ (by simp) rfl
      obtain ⟨rfl, hd14⟩ := h.h14 p14
      have p16 : L 16 = true := hp ⟨16, .chain⟩ (by simp) rfl
      obtain ⟨rfl, hd16⟩ := h.h16 p16
      rw [if_pos (by rfl)]
      go_simp
      go_at_call 26
      (with_reducible refine (same11_any _ _ _ _ X hd14 hd16 r hr.out).mono ?_)
      rintro e X2 ⟨rfl, gX⟩
      have gb := gX.below
      have hlow2 := below_later h.low gb
      exact ⟨_, _, _, _, _, _, _, _, _, _, _, _, _, _, _, _, _, _, _, _, s1, l1, c1, s2, l2, c2, rfl, ⟨hlow2, h.kx.later gb, h.ky.later gb, h.h0, h.h1, h.h2, h.h3, h.h4, h.h5, h.h6, h.h7, h.h8, h.h9, h.h10, h.h11, h.h12, h.h13, fun e => ⟨(h.h14 e).1, (h.h14 e).2.later gb⟩, h.h15, fun e => ⟨(h.h16 e).1, (h.h16 e).2.later gb⟩, fun _ => rfl, h.h18, h.h19⟩⟩
    | 18, _, hL, ho, hp =>
      simp only [List.getElem?_toArray, List.getElem?_cons_zero, List.getElem?_cons_succ, Option.some.injEq] at ho
      subst ho
      have p12 : L 12 = true := hp ⟨12, .data⟩ (by simp) rfl
      obtain rfl := h.h12 p12
      have p17 : L 17 = true := hp ⟨17, .data⟩ (by simp) rfl
      obtain rfl := h.h17 p17
      rw [if_pos (by rfl)]
      go_simp
      exact ⟨_, _, _, _, _, _, _, _, _, _, _, _, _, _, _, _, _, _, _, _, s1, l1, c1, s2, l2, c2, rfl, ⟨h.low, h.kx, h.ky, h.h0, h.h1, h.h2, h.h3, h.h4, h.h5, h.h6, h.h7, h.h8, h.h9, h.h10, h.h11, h.h12, h.h13, h.h14, h.h15, h.h16, h.h17, fun _ => rfl, h.h19⟩⟩
    | 19, _, hL, ho, hp =>
      simp only [List.getElem?_toArray, List.getElem?_cons_zero, List.getElem?_cons_succ, Option.some.injEq] at ho
      subst ho
      have p18 : L 18 = true := hp ⟨18, .phase⟩ (by simp) rfl
      obtain rfl := h.h18 p18
      rw [if_pos (by rfl)]
      go_simp
      exact ⟨_, _, _, _, _, _, _, _, _, _, _, _, _, _, _, _, _, _, _, _, s1, l1, c1, s2, l2, c2, rfl, ⟨h.low, h.kx, h.ky, h.h0, h.h1, h.h2, h.h3, h.h4, h.h5, h.h6, h.h7, h.h8, h.h9, h.h10, h.h11, h.h12, h.h13, h.h14, h.h15, h.h16, h.h17, h.h18, fun _ => rfl⟩⟩
set_option maxRecDepth 100000 in
set_option maxHeartbeats 4000000 in
theorem sameM_any (x y z x' y' z' : Ti) (t u A t' u' A' : Tr) (o : Bool) (k : Int) (w : World) (h1 : TR w x t) (h2 : TR w y u) (h3 : TR w z A) (h4 : TR w x' t') (h5 : TR w y' u') (h6 : TR w z' A') (r : Bool) (hr : r = decide ([t, u, A] = [t', u', A'])) :
    Calls Try.prog 12 #[.agg (mgV x y z o k), .agg (mgV x' y' z' o k)] w fun e w' => e = .returned (.bool r) ∧ Below w.heap.size w w' := by
  have HP1 := Lib.hid (fun W (hb : Below w.heap.size w W) => partsM_any x y z t u A o k W (h1.later hb) (h2.later hb) (h3.later hb))
  have HP2 := Lib.hid (fun W (hb : Below w.heap.size w W) => partsM_any x' y' z' t' u' A' o k W (h4.later hb) (h5.later hb) (h6.later hb))
  clear h1 h2 h3 h4 h5 h6
  go_enter Try.func12, Try.ntmps12
  go_wp2_with fail
  have G := ((Gr.alloc w (.cells (mgV x y z o k) 26)).trans (Gr.alloc _ (.cells (mgV x' y' z' o k) 26))).below
  have kx := (Blk.new w (mgV x y z o k) 26).alloc (.cells (mgV x' y' z' o k) 26)
  have ky := Blk.new (w.alloc (.cells (mgV x y z o k) 26)) (mgV x' y' z' o k) 26
  simp only [World.size_alloc] at ky
  refine SM_region w w.heap.size (w.heap.size + 1) x y z x' y' z' t u A _ o r k _ _ rfl G kx ky (Lib.hid hr) HP1 HP2 ?_
  rintro L t4 t5 t6 t7 t8 t9 t10 t11 t12 t13 t14 t15 t16 t17 t18 t19 t20 t21 t22 t23 s1 l1 c1 s2 l2 c2 X hall h
  have e4 := h.h19 (hall 19 (by decide))
  have hlow := h.low
  subst e4
  clear h hall HP1 HP2 kx ky G
  go_wp2
  go_ret
  exact ⟨rfl, hlow⟩
end Go.Proofs.Ytifhfeldjfcbfaa


/- MergeParts' first region: both tiers in memory of the call's own, by one invariant (tools/gen_m19.py). -/
namespace Go.Proofs.Ytifhfeldjfcbfaa
open Go.RowKit Go.Proofs.Kit Go.Shelf
structure MQI (w0 : World) (bx by1 : Nat) (x y : Ti) (t u : Tr) (no : Option Addr) (nn nc : Nat) (L : Nat → Bool) (w : World) (t7 t8 t29 t30 t31 t32 : Value) (fo : Option Addr) (fn : Nat) (fc : Nat) (fp : Option Addr) (fq : Nat) (fr : Nat) (ko : Option Addr) (kn : Nat) (kc : Nat) (kp : Option Addr) (kq : Nat) (kr : Nat) (b7 : Nat) (b8 : Nat) : Prop where
  low : Below w0.heap.size w0 w
  kx : Blk w bx #[x.av, x.bv] 24
  ky : Blk w by1 #[y.av, y.bv] 24
  h0 : L 0 = true → t29 = .agg #[x.av, x.bv]
  h1 : L 1 = true → t30 = .agg #[.slice fo fn fc, .slice fp fq fr] ∧ OwnQ 55 w0.heap.size w ⟨fo, fn, fc, fp, fq, fr⟩ (few24 t)
  h2 : L 2 = true → t31 = .agg #[y.av, y.bv]
  h3 : L 3 = true → t32 = .agg #[.slice ko kn kc, .slice kp kq kr] ∧ OwnQ 55 w0.heap.size w ⟨ko, kn, kc, kp, kq, kr⟩ (few24 u)
  h4 : L 4 = true → t7 = .pointer (some ⟨b7, 0, none⟩) ∧ w0.heap.size ≤ b7
  z4 : L 4 = true → L 6 = false → Blk w b7 #[.slice none 0 0, .slice none 0 0] 24
  h5 : L 5 = true → t8 = .pointer (some ⟨b8, 0, none⟩) ∧ w0.heap.size ≤ b8
  z5 : L 5 = true → L 7 = false → Blk w b8 #[.slice none 0 0, .slice none 0 0] 24
  k7 : L 6 = true → Blk w b7 #[.slice fo fn fc, .slice fp fq fr] 24
  k8 : L 7 = true → Blk w b8 #[.slice ko kn kc, .slice kp kq kr] 24
  nb : L 4 = true → L 5 = true → b7 ≠ b8
  s61 : L 6 = true → L 1 = true
  s64 : L 6 = true → L 4 = true
  s73 : L 7 = true → L 3 = true
  s75 : L 7 = true → L 5 = true
def MQV (w0 : World) (bx by1 : Nat) (x y : Ti) (t u : Tr) (no : Option Addr) (nn nc : Nat) (L : Nat → Bool) (a : Act) (X : World) : Prop :=
  ∃ t7 t8 t29 t30 t31 t32 fo fn fc fp fq fr ko kn kc kp kq kr b7 b8, a = { tmps := #[.agg #[x.av, x.bv], .agg #[y.av, y.bv], .slice no nn nc, .pointer (some ⟨bx, 0, none⟩), .pointer (some ⟨by1, 0, none⟩), undef, .bool false, t7, t8, undef, undef, undef, undef, undef, undef, undef, undef, undef, undef, undef, undef, undef, undef, undef, undef, undef, undef, .bool true, .bool false, t29, t30, t31, t32, undef, undef, undef, undef, undef, undef, undef, undef, undef, undef, undef, undef, undef, undef, undef, undef, undef, undef, undef, undef, undef, undef, undef, undef, undef, undef, undef, undef, undef, undef, undef, undef, undef, undef, undef, undef, undef, undef, undef, undef, undef, undef, undef, undef, undef, undef, undef, undef, undef, undef, undef, undef, undef, undef, undef, undef, undef, undef, undef, undef, undef, undef, undef, undef, undef, undef, undef, undef, undef, undef, undef, undef, undef, undef, undef, undef, undef, undef, undef, undef, undef, undef, undef, undef, undef, undef, undef, undef, undef, undef, undef, undef, undef, undef, undef, undef, undef, undef, undef, undef, undef, undef, undef, undef, undef, undef, undef, undef, undef, undef, undef, undef, undef, undef, undef, undef, undef, undef, undef, undef, undef, undef, undef, undef, undef, undef, undef, undef, undef, undef, undef, undef, undef, undef, undef, undef, undef, undef, undef, undef, undef, undef, undef, undef, undef, undef, undef, undef, undef, undef, undef, undef, undef, undef, undef, undef, undef, undef, undef, undef, undef, undef, undef, undef, undef, undef, undef, undef, undef, undef, undef, undef, undef, undef, undef, undef, undef, undef, undef, undef, undef, undef, undef, undef, undef, undef], defers := [] } ∧ MQI w0 bx by1 x y t u no nn nc L X t7 t8 t29 t30 t31 t32 fo fn fc fp fq fr ko kn kc kp kq kr b7 b8
set_option maxRecDepth 100000 in
set_option maxHeartbeats 16000000 in
theorem MQ_region {Q : Exit → Act → World → Prop} (w0 : World) (bx by1 : Nat) (x y : Ti) (t u : Tr) (no : Option Addr) (nn nc : Nat) (W : World) (a : Act) (ha : a = { tmps := #[.agg #[x.av, x.bv], .agg #[y.av, y.bv], .slice no nn nc, .pointer (some ⟨bx, 0, none⟩), .pointer (some ⟨by1, 0, none⟩), undef, .bool false, undef, undef, undef, undef, undef, undef, undef, undef, undef, undef, undef, undef, undef, undef, undef, undef, undef, undef, undef, undef, .bool true, .bool false, undef, undef, undef, undef, undef, undef, undef, undef, undef, undef, undef, undef, undef, undef, undef, undef, undef, undef, undef, undef, undef, undef, undef, undef, undef, undef, undef, undef, undef, undef, undef, undef, undef, undef, undef, undef, undef, undef, undef, undef, undef, undef, undef, undef, undef, undef, undef, undef, undef, undef, undef, undef, undef, undef, undef, undef, undef, undef, undef, undef, undef, undef, undef, undef, undef, undef, undef, undef, undef, undef, undef, undef, undef, undef, undef, undef, undef, undef, undef, undef, undef, undef, undef, undef, undef, undef, undef, undef, undef, undef, undef, undef, undef, undef, undef, undef, undef, undef, undef, undef, undef, undef, undef, undef, undef, undef, undef, undef, undef, undef, undef, undef, undef, undef, undef, undef, undef, undef, undef, undef, undef, undef, undef, undef, undef, undef, undef, undef, undef, undef, undef, undef, undef, undef, undef, undef, undef, undef, undef, undef, undef, undef, undef, undef, undef, undef, undef, undef, undef, undef, undef, undef, undef, undef, undef, undef, undef, undef, undef, undef, undef, undef, undef, undef, undef, undef, undef, undef, undef, undef, undef, undef, undef, undef, undef, undef, undef, undef, undef, undef, undef, undef, undef, undef, undef, undef, undef, undef, undef, undef], defers := [] }) (hlow : Below w0.heap.size w0 W) (hkx : Blk W bx #[x.av, x.bv] 24) (hky : Blk W by1 #[y.av, y.bv] 24)
    (hbx : bx < w0.heap.size) (hby : by1 < w0.heap.size) (HX : Hid (∀ W, Below w0.heap.size w0 W → Calls Try.prog 23 #[.agg #[x.av, x.bv]] W fun e w' => ∃ y : Ti, e = .returned (.agg #[y.av, y.bv]) ∧ OwnQ 55 W.heap.size w' y (few24 t) ∧ Below W.heap.size W w'))
    (HY : Hid (∀ W, Below w0.heap.size w0 W → Calls Try.prog 23 #[.agg #[y.av, y.bv]] W fun e w' => ∃ z : Ti, e = .returned (.agg #[z.av, z.bv]) ∧ OwnQ 55 W.heap.size w' z (few24 u) ∧ Below W.heap.size W w'))
    (hQ : ∀ L t7 t8 t29 t30 t31 t32 fo fn fc fp fq fr ko kn kc kp kq kr b7 b8 X, (∀ i, i < 8 → L i = true) → MQI w0 bx by1 x y t u no nn nc L X t7 t8 t29 t30 t31 t32 fo fn fc fp fq fr ko kn kc kp kq kr b7 b8 → Q .normal { tmps := #[.agg #[x.av, x.bv], .agg #[y.av, y.bv], .slice no nn nc, .pointer (some ⟨bx, 0, none⟩), .pointer (some ⟨by1, 0, none⟩), undef, .bool false, t7, t8, undef, undef, undef, undef, undef, undef, undef, undef, undef, undef, undef, undef, undef, undef, undef, undef, undef, undef, .bool true, .bool false, t29, t30, t31, t32, undef, undef, undef, undef, undef, undef, undef, undef, undef, undef, undef, undef, undef, undef, undef, undef, undef, undef, undef, undef, undef, undef, undef, undef, undef, undef, undef, undef, undef, undef, undef, undef, undef, undef, undef, undef, undef, undef, undef, undef, undef, undef, undef, undef, undef, undef, undef, undef, undef, undef, undef, undef, undef, undef, undef, undef, undef, undef, undef, undef, undef, undef, undef, undef, undef, undef, undef, undef, undef, undef, undef, undef, undef, undef, undef, undef, undef, undef, undef, undef, undef, undef, undef, undef, undef, undef, undef, undef, undef, undef, undef, undef, undef, undef, undef, undef, undef, undef, undef, undef, undef, undef, undef, undef, undef, undef, undef, undef, undef, undef, undef, undef, undef, undef, undef, undef, undef, undef, undef, undef, undef, undef, undef, undef, undef, undef, undef, undef, undef, undef, undef, undef, undef, undef, undef, undef, undef, undef, undef, undef, undef, undef, undef, undef, undef, undef, undef, undef, undef, undef, undef, undef, undef, undef, undef, undef, undef, undef, undef, undef, undef, undef, undef, undef, undef, undef, undef, undef, undef, undef, undef, undef, undef, undef, undef, undef, undef, undef, undef, undef, undef, undef, undef, undef, undef, undef], defers := [] } X) :
    (Code.region 3 #[{ dst := some 29, op := Op.load 24 (Operand.tmp 3), type := 24, pos := "outright.go:34", after := #[], guard := none }, { dst := some 30, op := Op.call { callee := Callee.value (Operand.func 23), args := #[Operand.tmp 29], argTypes := #[24] }, type := 24, pos := "outright.go:34", after := #[{ on := 0, ground := Ground.data }], guard := none }, { dst := some 31, op := Op.load 24 (Operand.tmp 4), type := 24, pos := "outright.go:34", after := #[], guard := none }, { dst := some 32, op := Op.call { callee := Callee.value (Operand.func 23), args := #[Operand.tmp 31], argTypes := #[24] }, type := 24, pos := "outright.go:34", after := #[{ on := 2, ground := Ground.data }, { on := 1, ground := Ground.chain }], guard := none }, { dst := some 7, op := Op.alloc 24, type := 0, pos := "outright.go:34", after := #[], guard := none }, { dst := some 8, op := Op.alloc 24, type := 0, pos := "outright.go:34", after := #[], guard := none }, { dst := none, op := Op.store 24 (Operand.tmp 7) (Operand.tmp 30), type := 0, pos := "outright.go:34", after := #[{ on := 4, ground := Ground.data }, { on := 1, ground := Ground.data }, { on := 3, ground := Ground.chain }, { on := 0, ground := Ground.phase }, { on := 1, ground := Ground.phase }, { on := 2, ground := Ground.textOnly Departure.lateStores }, { on := 3, ground := Ground.textOnly Departure.lateStoresUnsure }, { on := 4, ground := Ground.phase }, { on := 5, ground := Ground.phase }], guard := none }, { dst := none, op := Op.store 24 (Operand.tmp 8) (Operand.tmp 32), type := 0, pos := "outright.go:34", after := #[{ on := 5, ground := Ground.data }, { on := 3, ground := Ground.data }, { on := 6, ground := Ground.chain }, { on := 0, ground := Ground.phase }, { on := 1, ground := Ground.phase }, { on := 2, ground := Ground.phase }, { on := 3, ground := Ground.phase }, { on := 4, ground := Ground.phase }, { on := 5, ground := Ground.phase }, { on := 6, ground := Ground.phase }], guard := none }] true).wp Try.prog Q a W := by
  have hmix := mixed
  refine wp_region_inv hmix (Inv := MQV w0 bx by1 x y t u no nn nc) (by kernel_rfl) ?h0 ?hstep ?hdone
  case h0 =>
    subst ha
    exact ⟨undef, undef, undef, undef, undef, undef, none, 0, 0, none, 0, 0, none, 0, 0, none, 0, 0, 0, 0, rfl, ⟨hlow.drew, hkx.drew, hky.drew, nofun, nofun, nofun, nofun, nofun, nofun, nofun, nofun, nofun, nofun, nofun, nofun, nofun, nofun, nofun⟩⟩
  case hdone =>
    rintro L a X ⟨t7, t8, t29, t30, t31, t32, fo, fn, fc, fp, fq, fr, ko, kn, kc, kp, kq, kr, b7, b8, rfl, h⟩ hall
    exact hQ L t7 t8 t29 t30 t31 t32 fo fn fc fp fq fr ko kn kc kp kq kr b7 b8 X hall h
  case hstep =>
    clear hQ ha
    rintro L a X i op ⟨t7, t8, t29, t30, t31, t32, fo, fn, fc, fp, fq, fr, ko, kn, kc, kp, kq, kr, b7, b8, rfl, h⟩ hL ho hp
    have hi : i < 8 := (Array.getElem?_eq_some_iff.1 ho).1
    match i, hi, hL, ho, hp with
    | 0, _, hL, ho, hp =>
      simp only [List.getElem?_toArray, List.getElem?_cons_zero, Option.some.injEq] at ho
      subst ho
      rw [if_pos (by simp [Region.wanted])]
      have ckx0 := h.kx.cell 0
      have ckx1 := h.kx.cell 1
      have lkx := h.kx.lt
      simp only [List.getElem?_toArray, List.getElem?_cons_zero, List.getElem?_cons_succ] at ckx0 ckx1
      go_simp
      exact ⟨_, _, _, _, _, _, fo, fn, fc, fp, fq, fr, ko, kn, kc, kp, kq, kr, b7, b8, rfl, ⟨h.low, h.kx, h.ky, fun _ => rfl, h.h1, h.h2, h.h3, h.h4, h.z4, h.h5, h.z5, h.k7, h.k8, h.nb, h.s61, h.s64, h.s73, h.s75⟩⟩
    | 1, _, hL, ho, hp =>
      simp only [List.getElem?_toArray, List.getElem?_cons_zero, List.getElem?_cons_succ, Option.some.injEq] at ho
      subst ho
      rw [if_pos (by simp [Region.wanted])]
      have p0 : L 0 = true := hp ⟨0, .data⟩ (by simp) rfl
      obtain rfl := h.h0 p0
      go_simp
      go_at_call 23
      (with_reducible refine (HX.out _ h.low).mono ?_)
      rintro e X2 ⟨⟨qo, qn, qc, qp, qq, qr⟩, rfl, hq, gb⟩
      have hsz := h.low.size
      have hlow2 := below_later h.low gb
      exact ⟨_, _, _, _, _, _, qo, qn, qc, qp, qq, qr, ko, kn, kc, kp, kq, kr, b7, b8, rfl, ⟨hlow2, h.kx.later gb, h.ky.later gb, h.h0, fun _ => ⟨rfl, hq.mono hsz⟩, h.h2, fun e => ⟨(h.h3 e).1, (h.h3 e).2.later gb⟩, h.h4, fun e e2 => (h.z4 e e2).later gb, h.h5, fun e e2 => (h.z5 e e2).later gb, fun e => absurd (h.s61 e) (by rw [hL]; decide), fun e => (h.k8 e).later gb, h.nb, fun _ => rfl, h.s64, h.s73, h.s75⟩⟩
    | 2, _, hL, ho, hp =>
      simp only [List.getElem?_toArray, List.getElem?_cons_zero, List.getElem?_cons_succ, Option.some.injEq] at ho
      subst ho
      rw [if_pos (by simp [Region.wanted])]
      have cky0 := h.ky.cell 0
      have cky1 := h.ky.cell 1
      have lky := h.ky.lt
      simp only [List.getElem?_toArray, List.getElem?_cons_zero, List.getElem?_cons_succ] at cky0 cky1
      go_simp
      exact ⟨_, _, _, _, _, _, fo, fn, fc, fp, fq, fr, ko, kn, kc, kp, kq, kr, b7, b8, rfl, ⟨h.low, h.kx, h.ky, h.h0, h.h1, fun _ => rfl, h.h3, h.h4, h.z4, h.h5, h.z5, h.k7, h.k8, h.nb, h.s61, h.s64, h.s73, h.s75⟩⟩
    | 3, _, hL, ho, hp =>
      simp only [List.getElem?_toArray, List.getElem?_cons_zero, List.getElem?_cons_succ, Option.some.injEq] at ho
      subst ho
      rw [if_pos (by simp [Region.wanted])]
      have p2 : L 2 = true := hp ⟨2, .data⟩ (by simp) rfl
      obtain rfl := h.h2 p2
      go_simp
      go_at_call 23
      (with_reducible refine (HY.out _ h.low).mono ?_)
      rintro e X2 ⟨⟨qo, qn, qc, qp, qq, qr⟩, rfl, hq, gb⟩
      have hsz := h.low.size
      have hlow2 := below_later h.low gb
      exact ⟨_, _, _, _, _, _, fo, fn, fc, fp, fq, fr, qo, qn, qc, qp, qq, qr, b7, b8, rfl, ⟨hlow2, h.kx.later gb, h.ky.later gb, h.h0, fun e => ⟨(h.h1 e).1, (h.h1 e).2.later gb⟩, h.h2, fun _ => ⟨rfl, hq.mono hsz⟩, h.h4, fun e e2 => (h.z4 e e2).later gb, h.h5, fun e e2 => (h.z5 e e2).later gb, fun e => (h.k7 e).later gb, fun e => absurd (h.s73 e) (by rw [hL]; decide), h.nb, h.s61, h.s64, fun _ => rfl, h.s75⟩⟩
    | 4, _, hL, ho, hp =>
      simp only [List.getElem?_toArray, List.getElem?_cons_zero, List.getElem?_cons_succ, Option.some.injEq] at ho
      subst ho
      rw [if_pos (by simp [Region.wanted])]
      have e8 : L 5 = true → b8 < X.heap.size := fun e => by
        cases c : L 7 with
        | false => exact (h.z5 e c).lt
        | true => exact (h.k8 c).lt
      go_simp
      have gb := (Gr.alloc X (.cells #[.slice none 0 0, .slice none 0 0] 24)).below
      have hsz := h.low.size
      have hlow2 := below_later h.low gb
      exact ⟨_, _, _, _, _, _, fo, fn, fc, fp, fq, fr, ko, kn, kc, kp, kq, kr, X.heap.size, b8, rfl, ⟨hlow2, h.kx.later gb, h.ky.later gb, h.h0, fun e => ⟨(h.h1 e).1, (h.h1 e).2.later gb⟩, h.h2, fun e => ⟨(h.h3 e).1, (h.h3 e).2.later gb⟩, fun _ => ⟨rfl, hsz⟩, fun _ _ => Blk.new _ _ _, h.h5, fun e e2 => (h.z5 e e2).later gb, fun e => absurd (h.s64 e) (by rw [hL]; decide), fun e => (h.k8 e).later gb, fun _ e => Ne.symm (Nat.ne_of_lt (e8 e)), h.s61, fun _ => rfl, h.s73, h.s75⟩⟩
    | 5, _, hL, ho, hp =>
      simp only [List.getElem?_toArray, List.getElem?_cons_zero, List.getElem?_cons_succ, Option.some.injEq] at ho
      subst ho
      rw [if_pos (by simp [Region.wanted])]
      have e7 : L 4 = true → b7 < X.heap.size := fun e => by
        cases c : L 6 with
        | false => exact (h.z4 e c).lt
        | true => exact (h.k7 c).lt
      go_simp
      have gb := (Gr.alloc X (.cells #[.slice none 0 0, .slice none 0 0] 24)).below
      have hsz := h.low.size
      have hlow2 := below_later h.low gb
      exact ⟨_, _, _, _, _, _, fo, fn, fc, fp, fq, fr, ko, kn, kc, kp, kq, kr, b7, X.heap.size, rfl, ⟨hlow2, h.kx.later gb, h.ky.later gb, h.h0, fun e => ⟨(h.h1 e).1, (h.h1 e).2.later gb⟩, h.h2, fun e => ⟨(h.h3 e).1, (h.h3 e).2.later gb⟩, h.h4, fun e e2 => (h.z4 e e2).later gb, fun _ => ⟨rfl, hsz⟩, fun _ _ => Blk.new _ _ _, fun e => (h.k7 e).later gb, fun e => absurd (h.s75 e) (by rw [hL]; decide), fun e _ => Nat.ne_of_lt (e7 e), h.s61, h.s64, h.s73, fun _ => rfl⟩⟩
    | 6, _, hL, ho, hp =>
      simp only [List.getElem?_toArray, List.getElem?_cons_zero, List.getElem?_cons_succ, Option.some.injEq] at ho
      subst ho
      rw [if_pos (by simp [Region.wanted])]
      have p4 : L 4 = true := hp ⟨4, .data⟩ (by simp) rfl
      obtain ⟨rfl, hd4⟩ := h.h4 p4
      have p1 : L 1 = true := hp ⟨1, .data⟩ (by simp) rfl
      obtain ⟨rfl, hd1⟩ := h.h1 p1
      have hkr := h.z4 p4 hL
      have c0 := hkr.cell 0
      have c1 := hkr.cell 1
      have f0 := hkr.frozen 0
      have f1 := hkr.frozen 1
      have lr := hkr.lt
      simp only [List.getElem?_toArray, List.getElem?_cons_zero, List.getElem?_cons_succ] at c0 c1
      go_simp
      exact ⟨_, _, _, _, _, _, fo, fn, fc, fp, fq, fr, ko, kn, kc, kp, kq, kr, b7, b8, rfl, ⟨(h.low.setCell (p := ⟨b7, 0, none⟩) hd4 _).setCell (p := ⟨b7, 1, none⟩) hd4 _, (h.kx.other (p := ⟨b7, 0, none⟩) (ltn h.kx hd4 hbx) _).other (p := ⟨b7, 1, none⟩) (ltn h.kx hd4 hbx) _, (h.ky.other (p := ⟨b7, 0, none⟩) (ltn h.ky hd4 hby) _).other (p := ⟨b7, 1, none⟩) (ltn h.ky hd4 hby) _, h.h0, fun e => ⟨(h.h1 e).1, (h.h1 e).2.1.otherB2 hkr (by decide) 0 1 _ _, (h.h1 e).2.2.otherB2 hkr (by decide) 0 1 _ _⟩, h.h2, fun e => ⟨(h.h3 e).1, (h.h3 e).2.1.otherB2 hkr (by decide) 0 1 _ _, (h.h3 e).2.2.otherB2 hkr (by decide) 0 1 _ _⟩, h.h4, fun _ e => absurd ((upd_same L 6).symm.trans e) (by decide), h.h5, fun e e2 => ((h.z5 e e2).other (p := ⟨b7, 0, none⟩) (Ne.symm (h.nb p4 e)) _).other (p := ⟨b7, 1, none⟩) (Ne.symm (h.nb p4 e)) _, fun _ => hkr.setT, fun e => ((h.k8 e).other (p := ⟨b7, 0, none⟩) (Ne.symm (h.nb p4 (h.s75 e))) _).other (p := ⟨b7, 1, none⟩) (Ne.symm (h.nb p4 (h.s75 e))) _, h.nb, fun _ => p1, fun _ => p4, h.s73, h.s75⟩⟩
    | 7, _, hL, ho, hp =>
      simp only [List.getElem?_toArray, List.getElem?_cons_zero, List.getElem?_cons_succ, Option.some.injEq] at ho
      subst ho
      rw [if_pos (by simp [Region.wanted])]
      have p5 : L 5 = true := hp ⟨5, .data⟩ (by simp) rfl
      obtain ⟨rfl, hd5⟩ := h.h5 p5
      have p3 : L 3 = true := hp ⟨3, .data⟩ (by simp) rfl
      obtain ⟨rfl, hd3⟩ := h.h3 p3
      have hkr := h.z5 p5 hL
      have c0 := hkr.cell 0
      have c1 := hkr.cell 1
      have f0 := hkr.frozen 0
      have f1 := hkr.frozen 1
      have lr := hkr.lt
      simp only [List.getElem?_toArray, List.getElem?_cons_zero, List.getElem?_cons_succ] at c0 c1
      go_simp
      exact ⟨_, _, _, _, _, _, fo, fn, fc, fp, fq, fr, ko, kn, kc, kp, kq, kr, b7, b8, rfl, ⟨(h.low.setCell (p := ⟨b8, 0, none⟩) hd5 _).setCell (p := ⟨b8, 1, none⟩) hd5 _, (h.kx.other (p := ⟨b8, 0, none⟩) (ltn h.kx hd5 hbx) _).other (p := ⟨b8, 1, none⟩) (ltn h.kx hd5 hbx) _, (h.ky.other (p := ⟨b8, 0, none⟩) (ltn h.ky hd5 hby) _).other (p := ⟨b8, 1, none⟩) (ltn h.ky hd5 hby) _, h.h0, fun e => ⟨(h.h1 e).1, (h.h1 e).2.1.otherB2 hkr (by decide) 0 1 _ _, (h.h1 e).2.2.otherB2 hkr (by decide) 0 1 _ _⟩, h.h2, fun e => ⟨(h.h3 e).1, (h.h3 e).2.1.otherB2 hkr (by decide) 0 1 _ _, (h.h3 e).2.2.otherB2 hkr (by decide) 0 1 _ _⟩, h.h4, fun e e2 => ((h.z4 e e2).other (p := ⟨b8, 0, none⟩) (h.nb e p5) _).other (p := ⟨b8, 1, none⟩) (h.nb e p5) _, h.h5, fun _ e => absurd ((upd_same L 7).symm.trans e) (by decide), fun e => ((h.k7 e).other (p := ⟨b8, 0, none⟩) (h.nb (h.s64 e) p5) _).other (p := ⟨b8, 1, none⟩) (h.nb (h.s64 e) p5) _, fun _ => hkr.setT, h.nb, h.s61, h.s64, fun _ => p3, fun _ => p5⟩⟩
end Go.Proofs.Ytifhfeldjfcbfaa

