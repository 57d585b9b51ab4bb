import Derived.Test.YtlhigfphfbmbjaaZF
import Derived.Test.YtlhigfphfbmbjaaW5
import Derived.Test.YtlhigfphfbmbjaaInvZ
/- own of stage 13's laws: its region by one invariant (tools/gen_z15.py). -/
namespace Go.Proofs.Ytlhigfphfbmbjaa
open Go.RowKit Go.Proofs.Kit Go.Shelf
structure Z15I (w0 : World) (bm : Nat) (ao0 : Option Addr) (an0 ac0 k : Nat) (q11 q35 q36 u15 u16 u17 u18 u19 u20 u21 u22 u23 u24 u25 u26 u27 u28 u29 u30 u31 u32 u33 u34 : Value) (oo : Option Addr) (nl cc : Nat) (ao : Option Addr) (an ac : Nat) (bo : Option Addr) (bn bc : Nat) (ka kb : Nat) (l1 l2 : List Pr) (LK : List Tr) (L : Nat → Bool) (w : World) (t3 t15 t16 t17 t18 t19 t20 t21 t22 t23 t24 t25 t26 t27 t28 t29 t30 t31 t32 t33 t34 : Value) (po : Option Addr) (pn : Nat) (pc : Nat) (ro : Option Addr) (rn : Nat) (rc : Nat) (zo : Option Addr) (zn : Nat) (zc : Nat) (bq : Nat) : Prop where
  low : Below w0.heap.size w0 w
  km : Blk w bm #[.slice ao an ac, .slice bo bn bc] 24
  ow : L 19 = false → OwnT 53 24 w0.heap.size w (.slice oo nl cc) LK
  m3 : L 20 = false → t3 = .slice oo nl cc
  h0 : L 0 = true → t15 = .slice oo nl cc
  h1 : L 1 = true → t16 = .pointer (some ⟨bm, 0, none⟩)
  h2 : L 2 = true → t17 = .slice ao an ac
  h3 : L 3 = true → t18 = .pointer (some ⟨bm, 0, none⟩)
  h4 : L 4 = true → t19 = .slice ao an ac
  h5 : L 5 = true → t20 = .int .i64 (an : Int)
  h6 : L 6 = true → t21 = .int .i64 (ka : Int)
  h7 : L 7 = true → t22 = .slice ao ka ac
  h8 : L 8 = true → t23 = .slice po pn pc ∧ OwnP 53 w0.heap.size w (.slice po pn pc) l1
  h9 : L 9 = true → t24 = .pointer (some ⟨bm, 1, none⟩)
  h10 : L 10 = true → t25 = .slice bo bn bc
  h11 : L 11 = true → t26 = .pointer (some ⟨bm, 1, none⟩)
  h12 : L 12 = true → t27 = .slice bo bn bc
  h13 : L 13 = true → t28 = .int .i64 (bn : Int)
  h14 : L 14 = true → t29 = .int .i64 (kb : Int)
  h15 : L 15 = true → t30 = .slice bo kb bc
  h16 : L 16 = true → t31 = .slice ro rn rc ∧ OwnP 53 w0.heap.size w (.slice ro rn rc) l2
  h17 : L 17 = true → t32 = .agg #[.slice po pn pc, .slice ro rn rc]
  h20 : L 20 = true → t3 = .slice zo zn zc
  h18 : L 18 = true → t33 = .slice (some ⟨bq, 0, none⟩) 1 1
  b18 : L 18 = true → L 19 = false → Blk w bq #[.slice po pn pc, .slice ro rn rc] 24
  h19 : L 19 = true → t34 = .slice zo zn zc
  ap : L 19 = true → OwnT 53 24 w0.heap.size w (.slice zo zn zc) (LK ++ [(l1, l2)])
  s17 : L 17 = true → L 8 = true ∧ L 16 = true
  s18 : L 18 = true → L 17 = true
  s19 : L 19 = true → L 0 = true ∧ L 18 = true
  s20 : L 20 = true → L 19 = true
def Z15V (w0 : World) (bm : Nat) (ao0 : Option Addr) (an0 ac0 k : Nat) (q11 q35 q36 u15 u16 u17 u18 u19 u20 u21 u22 u23 u24 u25 u26 u27 u28 u29 u30 u31 u32 u33 u34 : Value) (oo : Option Addr) (nl cc : Nat) (ao : Option Addr) (an ac : Nat) (bo : Option Addr) (bn bc : Nat) (ka kb : Nat) (l1 l2 : List Pr) (LK : List Tr) (L : Nat → Bool) (a : Act) (X : World) : Prop :=
  ∃ t3 t15 t16 t17 t18 t19 t20 t21 t22 t23 t24 t25 t26 t27 t28 t29 t30 t31 t32 t33 t34 po pn pc ro rn rc zo zn zc bq, a = { tmps := #[.slice ao0 an0 ac0, undef, .slice none 0 0, t3, .int .i64 (k : Int), .pointer (some ⟨bm, 0, none⟩), .slice ao0 an0 ac0, .int .i64 (an0 : Int), .int .i64 (k : Int), .bool true, .int .i64 (k : Int), q11, .agg #[.slice ao an ac, .slice bo bn bc], .int .i64 (k : Int), .bool true, t15, t16, t17, t18, t19, t20, t21, t22, t23, t24, t25, t26, t27, t28, t29, t30, t31, t32, t33, t34, q35, q36], defers := [] } ∧ Z15I w0 bm ao0 an0 ac0 k q11 q35 q36 u15 u16 u17 u18 u19 u20 u21 u22 u23 u24 u25 u26 u27 u28 u29 u30 u31 u32 u33 u34 oo nl cc ao an ac bo bn bc ka kb l1 l2 LK L X t3 t15 t16 t17 t18 t19 t20 t21 t22 t23 t24 t25 t26 t27 t28 t29 t30 t31 t32 t33 t34 po pn pc ro rn rc zo zn zc bq
set_option maxRecDepth 100000 in
set_option maxHeartbeats 16000000 in
theorem Z15_region {Q : Exit → Act → World → Prop} (w0 : World) (bm : Nat) (ao0 : Option Addr) (an0 ac0 k : Nat) (q11 q35 q36 u15 u16 u17 u18 u19 u20 u21 u22 u23 u24 u25 u26 u27 u28 u29 u30 u31 u32 u33 u34 : Value) (oo : Option Addr) (nl cc : Nat) (ao : Option Addr) (an ac : Nat) (bo : Option Addr) (bn bc : Nat) (ka kb : Nat) (l1 l2 : List Pr) (LK : List Tr) (W : World) (a : Act) (ha : a = { tmps := #[.slice ao0 an0 ac0, undef, .slice none 0 0, .slice oo nl cc, .int .i64 (k : Int), .pointer (some ⟨bm, 0, none⟩), .slice ao0 an0 ac0, .int .i64 (an0 : Int), .int .i64 (k : Int), .bool true, .int .i64 (k : Int), q11, .agg #[.slice ao an ac, .slice bo bn bc], .int .i64 (k : Int), .bool true, u15, u16, u17, u18, u19, u20, u21, u22, u23, u24, u25, u26, u27, u28, u29, u30, u31, u32, u33, u34, q35, q36], defers := [] }) (hlow : Below w0.heap.size w0 W) (hkm : Blk W bm #[.slice ao an ac, .slice bo bn bc] 24) (how : OwnT 53 24 w0.heap.size W (.slice oo nl cc) LK)
    (hob : ∀ g, (Value.slice oo nl cc).ownBlock = some g → g = bm → False) (hLL : LK.length ≤ 26) (hma : min (an : Int) 16 = (ka : Int)) (hmb : min (bn : Int) 16 = (kb : Int)) (hka : ka ≤ ac) (hkb : kb ≤ bc) (Ha : Hid (∀ W, Below w0.heap.size w0 W → Calls Try.prog 47 #[.slice ao ka ac] W fun e w' => ∃ v', e = .returned v' ∧ OwnP 53 W.heap.size w' v' l1 ∧ Below W.heap.size W w'))
    (Hb : Hid (∀ W, Below w0.heap.size w0 W → Calls Try.prog 47 #[.slice bo kb bc] W fun e w' => ∃ v', e = .returned v' ∧ OwnP 53 W.heap.size w' v' l2 ∧ Below W.heap.size W w'))
    (hQ : ∀ L t3 t15 t16 t17 t18 t19 t20 t21 t22 t23 t24 t25 t26 t27 t28 t29 t30 t31 t32 t33 t34 po pn pc ro rn rc zo zn zc bq X, (∀ i, i < 21 → L i = true) → Z15I w0 bm ao0 an0 ac0 k q11 q35 q36 u15 u16 u17 u18 u19 u20 u21 u22 u23 u24 u25 u26 u27 u28 u29 u30 u31 u32 u33 u34 oo nl cc ao an ac bo bn bc ka kb l1 l2 LK L X t3 t15 t16 t17 t18 t19 t20 t21 t22 t23 t24 t25 t26 t27 t28 t29 t30 t31 t32 t33 t34 po pn pc ro rn rc zo zn zc bq → Q .normal { tmps := #[.slice ao0 an0 ac0, undef, .slice none 0 0, t3, .int .i64 (k : Int), .pointer (some ⟨bm, 0, none⟩), .slice ao0 an0 ac0, .int .i64 (an0 : Int), .int .i64 (k : Int), .bool true, .int .i64 (k : Int), q11, .agg #[.slice ao an ac, .slice bo bn bc], .int .i64 (k : Int), .bool true, t15, t16, t17, t18, t19, t20, t21, t22, t23, t24, t25, t26, t27, t28, t29, t30, t31, t32, t33, t34, q35, q36], defers := [] } X) :
    (Code.region 6 #[{ dst := some 15, op := Op.move (Operand.tmp 3), type := 45, pos := "law.go:40", after := #[], guard := none }, { dst := some 16, op := Op.fieldAddr 24 (Operand.tmp 5) 0, type := 0, pos := "law.go:40", after := #[], guard := none }, { dst := some 17, op := Op.load 22 (Operand.tmp 16), type := 22, pos := "law.go:40", after := #[{ on := 1, ground := Ground.data }], guard := none }, { dst := some 18, op := Op.fieldAddr 24 (Operand.tmp 5) 0, type := 0, pos := "law.go:40", after := #[], guard := none }, { dst := some 19, op := Op.load 22 (Operand.tmp 18), type := 22, pos := "law.go:40", after := #[{ on := 3, ground := Ground.data }], guard := none }, { dst := some 20, op := Op.call { callee := Callee.builtin Builtin.len, args := #[Operand.tmp 19], argTypes := #[22] }, type := 3, pos := "law.go:40", after := #[{ on := 4, ground := Ground.data }], guard := none }, { dst := some 21, op := Op.call { callee := Callee.builtin Builtin.min, args := #[Operand.tmp 20, Operand.const (Value.int IntKind.i64 16)], argTypes := #[3, 3] }, type := 3, pos := "law.go:40", after := #[{ on := 5, ground := Ground.data }], guard := none }, { dst := some 22, op := Op.slice 22 (Operand.tmp 17) none (some (Operand.tmp 21)) none, type := 22, pos := "law.go:40", after := #[{ on := 2, ground := Ground.data }, { on := 6, ground := Ground.data }], guard := none }, { dst := some 23, op := Op.call { callee := Callee.value (Operand.func 47), args := #[Operand.tmp 22], argTypes := #[22] }, type := 22, pos := "law.go:40", after := #[{ on := 7, ground := Ground.data }], guard := none }, { dst := some 24, op := Op.fieldAddr 24 (Operand.tmp 5) 1, type := 0, pos := "law.go:40", after := #[], guard := none }, { dst := some 25, op := Op.load 22 (Operand.tmp 24), type := 22, pos := "law.go:40", after := #[{ on := 9, ground := Ground.data }], guard := none }, { dst := some 26, op := Op.fieldAddr 24 (Operand.tmp 5) 1, type := 0, pos := "law.go:40", after := #[], guard := none }, { dst := some 27, op := Op.load 22 (Operand.tmp 26), type := 22, pos := "law.go:40", after := #[{ on := 11, ground := Ground.data }], guard := none }, { dst := some 28, op := Op.call { callee := Callee.builtin Builtin.len, args := #[Operand.tmp 27], argTypes := #[22] }, type := 3, pos := "law.go:40", after := #[{ on := 12, ground := Ground.data }], guard := none }, { dst := some 29, op := Op.call { callee := Callee.builtin Builtin.min, args := #[Operand.tmp 28, Operand.const (Value.int IntKind.i64 16)], argTypes := #[3, 3] }, type := 3, pos := "law.go:40", after := #[{ on := 13, ground := Ground.data }], guard := none }, { dst := some 30, op := Op.slice 22 (Operand.tmp 25) none (some (Operand.tmp 29)) none, type := 22, pos := "law.go:40", after := #[{ on := 10, ground := Ground.data }, { on := 14, ground := Ground.data }], guard := none }, { dst := some 31, op := Op.call { callee := Callee.value (Operand.func 47), args := #[Operand.tmp 30], argTypes := #[22] }, type := 22, pos := "law.go:40", after := #[{ on := 15, ground := Ground.data }, { on := 8, ground := Ground.chain }], guard := none }, { dst := some 32, op := Op.build 24 #[(0, Operand.tmp 23), (1, Operand.tmp 31)], type := 24, pos := "law.go:40", after := #[{ on := 8, ground := Ground.data }, { on := 16, ground := Ground.data }], guard := none }, { dst := some 33, op := Op.buildSlice 45 1 #[(0, Operand.tmp 32)], type := 45, pos := "law.go:40", after := #[{ on := 17, ground := Ground.data }], guard := none }, { dst := some 34, op := Op.call { callee := Callee.builtin Builtin.append, args := #[Operand.tmp 15, Operand.tmp 33], argTypes := #[45, 45] }, type := 45, pos := "law.go:40", after := #[{ on := 0, ground := Ground.data }, { on := 18, ground := Ground.data }, { on := 16, ground := Ground.chain }], guard := none }, { dst := some 3, op := Op.assign (Operand.tmp 34), type := 45, pos := "law.go:40", after := #[{ on := 19, ground := Ground.data }, { on := 19, ground := Ground.chain }, { on := 0, ground := Ground.phase }, { on := 1, ground := Ground.phase }, { on := 2, ground := Ground.phase }, { on := 3, ground := Ground.phase }, { on := 4, ground := Ground.phase }, { on := 5, ground := Ground.phase }, { on := 6, ground := Ground.phase }, { on := 7, ground := Ground.phase }, { on := 8, ground := Ground.phase }, { on := 9, ground := Ground.phase }, { on := 10, ground := Ground.phase }, { on := 11, ground := Ground.phase }, { on := 12, ground := Ground.phase }, { on := 13, ground := Ground.phase }, { on := 14, ground := Ground.phase }, { on := 15, ground := Ground.phase }, { on := 16, ground := Ground.phase }, { on := 17, ground := Ground.phase }, { on := 18, ground := Ground.phase }, { on := 19, ground := Ground.phase }], guard := none }] true).wp Try.prog Q a W := by
  have hmix := mixed
  refine wp_region_inv hmix (Inv := Z15V w0 bm ao0 an0 ac0 k q11 q35 q36 u15 u16 u17 u18 u19 u20 u21 u22 u23 u24 u25 u26 u27 u28 u29 u30 u31 u32 u33 u34 oo nl cc ao an ac bo bn bc ka kb l1 l2 LK) (by kernel_rfl) ?h0 ?hstep ?hdone
  case h0 =>
    subst ha
    exact ⟨.slice oo nl cc, u15, u16, u17, u18, u19, u20, u21, u22, u23, u24, u25, u26, u27, u28, u29, u30, u31, u32, u33, u34, none, 0, 0, none, 0, 0, none, 0, 0, 0, rfl, ⟨hlow.drew, hkm.drew, fun _ => how.drew, fun _ => rfl, nofun, nofun, nofun, nofun, nofun, nofun, nofun, nofun, nofun, nofun, nofun, nofun, nofun, nofun, nofun, nofun, nofun, nofun, nofun, nofun, nofun, nofun, nofun, nofun, nofun, nofun, nofun⟩⟩
  case hdone =>
    rintro L a X ⟨t3, t15, t16, t17, t18, t19, t20, t21, t22, t23, t24, t25, t26, t27, t28, t29, t30, t31, t32, t33, t34, po, pn, pc, ro, rn, rc, zo, zn, zc, bq, rfl, h⟩ hall
    exact hQ L t3 t15 t16 t17 t18 t19 t20 t21 t22 t23 t24 t25 t26 t27 t28 t29 t30 t31 t32 t33 t34 po pn pc ro rn rc zo zn zc bq X hall h
  case hstep =>
    clear hQ ha
    rintro L a X i op ⟨t3, t15, t16, t17, t18, t19, t20, t21, t22, t23, t24, t25, t26, t27, t28, t29, t30, t31, t32, t33, t34, po, pn, pc, ro, rn, rc, zo, zn, zc, bq, rfl, h⟩ hL ho hp
    have hi : i < 21 := (Array.getElem?_eq_some_iff.1 ho).1
    match i, hi, hL, ho, hp with
    | 0, _, hL, ho, hp =>
      simp only [List.getElem?_toArray, List.getElem?_cons_zero, Option.some.injEq] at ho
      subst ho
      rw [if_pos (by simp [Region.wanted])]
      have e20 : L 20 = false := by
        cases c : L 20 with
        | false => rfl
        | true => exact absurd (h.s19 (h.s20 c)).1 (by rw [hL]; decide)
      obtain rfl := h.m3 e20
      go_simp
      exact ⟨_, _, _, _, _, _, _, _, _, _, _, _, _, _, _, _, _, _, _, _, _, po, pn, pc, ro, rn, rc, zo, zn, zc, bq, rfl, ⟨h.low, h.km, h.ow, h.m3, fun _ => rfl, h.h1, h.h2, h.h3, h.h4, h.h5, h.h6, h.h7, h.h8, h.h9, h.h10, h.h11, h.h12, h.h13, h.h14, h.h15, h.h16, h.h17, h.h20, h.h18, h.b18, h.h19, h.ap, h.s17, h.s18, fun e => absurd (h.s19 e).1 (by rw [hL]; decide), h.s20⟩⟩
    | 1, _, hL, ho, hp =>
      simp only [List.getElem?_toArray, List.getElem?_cons_zero, List.getElem?_cons_succ, Option.some.injEq] at ho
      subst ho
      rw [if_pos (by simp [Region.wanted])]
      go_simp
      exact ⟨_, _, _, _, _, _, _, _, _, _, _, _, _, _, _, _, _, _, _, _, _, po, pn, pc, ro, rn, rc, zo, zn, zc, bq, rfl, ⟨h.low, h.km, h.ow, h.m3, h.h0, fun _ => rfl, h.h2, h.h3, h.h4, h.h5, h.h6, h.h7, h.h8, h.h9, h.h10, h.h11, h.h12, h.h13, h.h14, h.h15, h.h16, h.h17, h.h20, h.h18, h.b18, h.h19, h.ap, h.s17, h.s18, h.s19, h.s20⟩⟩
    | 2, _, hL, ho, hp =>
      simp only [List.getElem?_toArray, List.getElem?_cons_zero, List.getElem?_cons_succ, Option.some.injEq] at ho
      subst ho
      rw [if_pos (by simp [Region.wanted])]
      have p1 : L 1 = true := hp ⟨1, .data⟩ (by simp) rfl
      obtain rfl := h.h1 p1
      have ckm0 := h.km.cell 0
      have lkm := h.km.lt
      simp only [List.getElem?_toArray, List.getElem?_cons_zero] at ckm0
      go_simp
      exact ⟨_, _, _, _, _, _, _, _, _, _, _, _, _, _, _, _, _, _, _, _, _, po, pn, pc, ro, rn, rc, zo, zn, zc, bq, rfl, ⟨h.low, h.km, h.ow, h.m3, h.h0, h.h1, fun _ => rfl, h.h3, h.h4, h.h5, h.h6, h.h7, h.h8, h.h9, h.h10, h.h11, h.h12, h.h13, h.h14, h.h15, h.h16, h.h17, h.h20, h.h18, h.b18, h.h19, h.ap, h.s17, h.s18, h.s19, h.s20⟩⟩
    | 3, _, hL, ho, hp =>
      simp only [List.getElem?_toArray, List.getElem?_cons_zero, List.getElem?_cons_succ, Option.some.injEq] at ho
      subst ho
      rw [if_pos (by simp [Region.wanted])]
      go_simp
      exact ⟨_, _, _, _, _, _, _, _, _, _, _, _, _, _, _, _, _, _, _, _, _, po, pn, pc, ro, rn, rc, zo, zn, zc, bq, rfl, ⟨h.low, h.km, h.ow, h.m3, h.h0, h.h1, h.h2, fun _ => rfl, h.h4, h.h5, h.h6, h.h7, h.h8, h.h9, h.h10, h.h11, h.h12, h.h13, h.h14, h.h15, h.h16, h.h17, h.h20, h.h18, h.b18, h.h19, h.ap, h.s17, h.s18, h.s19, h.s20⟩⟩
    | 4, _, hL, ho, hp =>
      simp only [List.getElem?_toArray, List.getElem?_cons_zero, List.getElem?_cons_succ, Option.some.injEq] at ho
      subst ho
      rw [if_pos (by simp [Region.wanted])]
      have p3 : L 3 = true := hp ⟨3, .data⟩ (by simp) rfl
      obtain rfl := h.h3 p3
      have ckm0 := h.km.cell 0
      have lkm := h.km.lt
      simp only [List.getElem?_toArray, List.getElem?_cons_zero] at ckm0
      go_simp
      exact ⟨_, _, _, _, _, _, _, _, _, _, _, _, _, _, _, _, _, _, _, _, _, po, pn, pc, ro, rn, rc, zo, zn, zc, bq, rfl, ⟨h.low, h.km, h.ow, h.m3, h.h0, h.h1, h.h2, h.h3, fun _ => rfl, h.h5, h.h6, h.h7, h.h8, h.h9, h.h10, h.h11, h.h12, h.h13, h.h14, h.h15, h.h16, h.h17, h.h20, h.h18, h.b18, h.h19, h.ap, h.s17, h.s18, h.s19, h.s20⟩⟩
    | 5, _, hL, ho, hp =>
      simp only [List.getElem?_toArray, List.getElem?_cons_zero, List.getElem?_cons_succ, Option.some.injEq] at ho
      subst ho
      rw [if_pos (by simp [Region.wanted])]
      have p4 : L 4 = true := hp ⟨4, .data⟩ (by simp) rfl
      obtain rfl := h.h4 p4
      go_simp
      exact ⟨_, _, _, _, _, _, _, _, _, _, _, _, _, _, _, _, _, _, _, _, _, po, pn, pc, ro, rn, rc, zo, zn, zc, bq, rfl, ⟨h.low, h.km, h.ow, h.m3, h.h0, h.h1, h.h2, h.h3, h.h4, fun _ => rfl, h.h6, h.h7, h.h8, h.h9, h.h10, h.h11, h.h12, h.h13, h.h14, h.h15, h.h16, h.h17, h.h20, h.h18, h.b18, h.h19, h.ap, h.s17, h.s18, h.s19, h.s20⟩⟩
    | 6, _, hL, ho, hp =>
      simp only [List.getElem?_toArray, List.getElem?_cons_zero, List.getElem?_cons_succ, Option.some.injEq] at ho
      subst ho
      rw [if_pos (by simp [Region.wanted])]
      have p5 : L 5 = true := hp ⟨5, .data⟩ (by simp) rfl
      obtain rfl := h.h5 p5
      have hmin := hma
      go_simp
      exact ⟨_, _, _, _, _, _, _, _, _, _, _, _, _, _, _, _, _, _, _, _, _, po, pn, pc, ro, rn, rc, zo, zn, zc, bq, rfl, ⟨h.low, h.km, h.ow, h.m3, h.h0, h.h1, h.h2, h.h3, h.h4, h.h5, fun _ => rfl, h.h7, h.h8, h.h9, h.h10, h.h11, h.h12, h.h13, h.h14, h.h15, h.h16, h.h17, h.h20, h.h18, h.b18, h.h19, h.ap, h.s17, h.s18, h.s19, h.s20⟩⟩
    | 7, _, hL, ho, hp =>
      simp only [List.getElem?_toArray, List.getElem?_cons_zero, List.getElem?_cons_succ, Option.some.injEq] at ho
      subst ho
      rw [if_pos (by simp [Region.wanted])]
      have p2 : L 2 = true := hp ⟨2, .data⟩ (by simp) rfl
      obtain rfl := h.h2 p2
      have p6 : L 6 = true := hp ⟨6, .data⟩ (by simp) rfl
      obtain rfl := h.h6 p6
      have hk1 := hka
      have hk2 : (ka : Int) ≤ (ac : Int) := by omega
      have hk3 : (0 : Int) ≤ (ka : Int) := by omega
      go_simp
      exact ⟨_, _, _, _, _, _, _, _, _, _, _, _, _, _, _, _, _, _, _, _, _, po, pn, pc, ro, rn, rc, zo, zn, zc, bq, rfl, ⟨h.low, h.km, h.ow, h.m3, h.h0, h.h1, h.h2, h.h3, h.h4, h.h5, h.h6, fun _ => rfl, h.h8, h.h9, h.h10, h.h11, h.h12, h.h13, h.h14, h.h15, h.h16, h.h17, h.h20, h.h18, h.b18, h.h19, h.ap, h.s17, h.s18, h.s19, h.s20⟩⟩
    | 8, _, hL, ho, hp =>
      simp only [List.getElem?_toArray, List.getElem?_cons_zero, List.getElem?_cons_succ, Option.some.injEq] at ho
      subst ho
      rw [if_pos (by simp [Region.wanted])]
      have p7 : L 7 = true := hp ⟨7, .data⟩ (by simp) rfl
      obtain rfl := h.h7 p7
      go_simp
      go_at_call 47
      (with_reducible refine (Ha.out _ h.low).mono ?_)
      rintro e X2 ⟨q, rfl, hq, gb⟩
      obtain ⟨qo, qn, qc, rfl⟩ := hq.any
      have hsz := h.low.size
      have hlow2 := below_later h.low gb
      exact ⟨_, _, _, _, _, _, _, _, _, _, _, _, _, _, _, _, _, _, _, _, _, qo, qn, qc, ro, rn, rc, zo, zn, zc, bq, rfl, ⟨hlow2, h.km.later gb, fun e => (h.ow e).later gb, h.m3, h.h0, h.h1, h.h2, h.h3, h.h4, h.h5, h.h6, h.h7, fun _ => ⟨rfl, hq.mono hsz⟩, h.h9, h.h10, h.h11, h.h12, h.h13, h.h14, h.h15, fun e => ⟨(h.h16 e).1, (h.h16 e).2.later gb⟩, fun e => absurd (h.s17 e).1 (by rw [hL]; decide), h.h20, h.h18, fun e e2 => absurd (h.s17 (h.s18 e)).1 (by rw [hL]; decide), h.h19, fun e => absurd (h.s17 (h.s18 (h.s19 e).2)).1 (by rw [hL]; decide), fun e => absurd (h.s17 e).1 (by rw [hL]; decide), h.s18, h.s19, h.s20⟩⟩
    | 9, _, hL, ho, hp =>
      simp only [List.getElem?_toArray, List.getElem?_cons_zero, List.getElem?_cons_succ, Option.some.injEq] at ho
      subst ho
      rw [if_pos (by simp [Region.wanted])]
      go_simp
      exact ⟨_, _, _, _, _, _, _, _, _, _, _, _, _, _, _, _, _, _, _, _, _, po, pn, pc, ro, rn, rc, zo, zn, zc, bq, rfl, ⟨h.low, h.km, h.ow, h.m3, h.h0, h.h1, h.h2, h.h3, h.h4, h.h5, h.h6, h.h7, h.h8, fun _ => rfl, h.h10, h.h11, h.h12, h.h13, h.h14, h.h15, h.h16, h.h17, h.h20, h.h18, h.b18, h.h19, h.ap, h.s17, h.s18, h.s19, h.s20⟩⟩
    | 10, _, hL, ho, hp =>
      simp only [List.getElem?_toArray, List.getElem?_cons_zero, List.getElem?_cons_succ, Option.some.injEq] at ho
      subst ho
      rw [if_pos (by simp [Region.wanted])]
      have p9 : L 9 = true := hp ⟨9, .data⟩ (by simp) rfl
      obtain rfl := h.h9 p9
      have ckm1 := h.km.cell 1
      have lkm := h.km.lt
      simp only [List.getElem?_toArray, List.getElem?_cons_zero, List.getElem?_cons_succ] at ckm1
      go_simp
      exact ⟨_, _, _, _, _, _, _, _, _, _, _, _, _, _, _, _, _, _, _, _, _, po, pn, pc, ro, rn, rc, zo, zn, zc, bq, rfl, ⟨h.low, h.km, h.ow, h.m3, h.h0, h.h1, h.h2, h.h3, h.h4, h.h5, h.h6, h.h7, h.h8, h.h9, fun _ => rfl, h.h11, h.h12, h.h13, h.h14, h.h15, h.h16, h.h17, h.h20, h.h18, h.b18, h.h19, h.ap, h.s17, h.s18, h.s19, h.s20⟩⟩
    | 11, _, hL, ho, hp =>
      simp only [List.getElem?_toArray, List.getElem?_cons_zero, List.getElem?_cons_succ, Option.some.injEq] at ho
      subst ho
      rw [if_pos (by simp [Region.wanted])]
      go_simp
      exact ⟨_, _, _, _, _, _, _, _, _, _, _, _, _, _, _, _, _, _, _, _, _, po, pn, pc, ro, rn, rc, zo, zn, zc, bq, rfl, ⟨h.low, h.km, h.ow, h.m3, h.h0, h.h1, h.h2, h.h3, h.h4, h.h5, h.h6, h.h7, h.h8, h.h9, h.h10, fun _ => rfl, h.h12, h.h13, h.h14, h.h15, h.h16, h.h17, h.h20, h.h18, h.b18, h.h19, h.ap, h.s17, h.s18, h.s19, h.s20⟩⟩
    | 12, _, hL, ho, hp =>
      simp only [List.getElem?_toArray, List.getElem?_cons_zero, List.getElem?_cons_succ, Option.some.injEq] at ho
      subst ho
      rw [if_pos (by simp [Region.wanted])]
      have p11 : L 11 = true := hp ⟨11, .data⟩ (by simp) rfl
      obtain rfl := h.h11 p11
      have ckm1 := h.km.cell 1
      have lkm := h.km.lt
      simp only [List.getElem?_toArray, List.getElem?_cons_zero, List.getElem?_cons_succ] at ckm1
      go_simp
      exact ⟨_, _, _, _, _, _, _, _, _, _, _, _, _, _, _, _, _, _, _, _, _, po, pn, pc, ro, rn, rc, zo, zn, zc, bq, rfl, ⟨h.low, h.km, h.ow, h.m3, h.h0, h.h1, h.h2, h.h3, h.h4, h.h5, h.h6, h.h7, h.h8, h.h9, h.h10, h.h11, fun _ => rfl, h.h13, h.h14, h.h15, h.h16, h.h17, h.h20, h.h18, h.b18, h.h19, h.ap, h.s17, h.s18, h.s19, h.s20⟩⟩
    | 13, _, hL, ho, hp =>
      simp only [List.getElem?_toArray, List.getElem?_cons_zero, List.getElem?_cons_succ, Option.some.injEq] at ho
      subst ho
      rw [if_pos (by simp [Region.wanted])]
      have p12 : L 12 = true := hp ⟨12, .data⟩ (by simp) rfl
      obtain rfl := h.h12 p12
      go_simp
      exact ⟨_, _, _, _, _, _, _, _, _, _, _, _, _, _, _, _, _, _, _, _, _, po, pn, pc, ro, rn, rc, zo, zn, zc, bq, rfl, ⟨h.low, h.km, h.ow, h.m3, h.h0, h.h1, h.h2, h.h3, h.h4, h.h5, h.h6, h.h7, h.h8, h.h9, h.h10, h.h11, h.h12, fun _ => rfl, h.h14, h.h15, h.h16, h.h17, h.h20, h.h18, h.b18, h.h19, h.ap, h.s17, h.s18, h.s19, h.s20⟩⟩
    | 14, _, hL, ho, hp =>
      simp only [List.getElem?_toArray, List.getElem?_cons_zero, List.getElem?_cons_succ, Option.some.injEq] at ho
      subst ho
      rw [if_pos (by simp [Region.wanted])]
      have p13 : L 13 = true := hp ⟨13, .data⟩ (by simp) rfl
      obtain rfl := h.h13 p13
      have hmin := hmb
      go_simp
      exact ⟨_, _, _, _, _, _, _, _, _, _, _, _, _, _, _, _, _, _, _, _, _, po, pn, pc, ro, rn, rc, zo, zn, zc, bq, rfl, ⟨h.low, h.km, h.ow, h.m3, h.h0, h.h1, h.h2, h.h3, h.h4, h.h5, h.h6, h.h7, h.h8, h.h9, h.h10, h.h11, h.h12, h.h13, fun _ => rfl, h.h15, h.h16, h.h17, h.h20, h.h18, h.b18, h.h19, h.ap, h.s17, h.s18, h.s19, h.s20⟩⟩
    | 15, _, hL, ho, hp =>
      simp only [List.getElem?_toArray, List.getElem?_cons_zero, List.getElem?_cons_succ, Option.some.injEq] at ho
      subst ho
      rw [if_pos (by simp [Region.wanted])]
      have p10 : L 10 = true := hp ⟨10, .data⟩ (by simp) rfl
      obtain rfl := h.h10 p10
      have p14 : L 14 = true := hp ⟨14, .data⟩ (by simp) rfl
      obtain rfl := h.h14 p14
      have hk1 := hkb
      have hk2 : (kb : Int) ≤ (bc : Int) := by omega
      have hk3 : (0 : Int) ≤ (kb : Int) := by omega
      go_simp
      exact ⟨_, _, _, _, _, _, _, _, _, _, _, _, _, _, _, _, _, _, _, _, _, po, pn, pc, ro, rn, rc, zo, zn, zc, bq, rfl, ⟨h.low, h.km, h.ow, h.m3, h.h0, h.h1, h.h2, h.h3, h.h4, h.h5, h.h6, h.h7, h.h8, h.h9, h.h10, h.h11, h.h12, h.h13, h.h14, fun _ => rfl, h.h16, h.h17, h.h20, h.h18, h.b18, h.h19, h.ap, h.s17, h.s18, h.s19, h.s20⟩⟩
    | 16, _, hL, ho, hp =>
      simp only [List.getElem?_toArray, List.getElem?_cons_zero, List.getElem?_cons_succ, Option.some.injEq] at ho
      subst ho
      rw [if_pos (by simp [Region.wanted])]
      have p15 : L 15 = true := hp ⟨15, .data⟩ (by simp) rfl
      obtain rfl := h.h15 p15
      go_simp
      go_at_call 47
      (with_reducible refine (Hb.out _ h.low).mono ?_)
      rintro e X2 ⟨q, rfl, hq, gb⟩
      obtain ⟨qo, qn, qc, rfl⟩ := hq.any
      have hsz := h.low.size
      have hlow2 := below_later h.low gb
      exact ⟨_, _, _, _, _, _, _, _, _, _, _, _, _, _, _, _, _, _, _, _, _, po, pn, pc, qo, qn, qc, zo, zn, zc, bq, rfl, ⟨hlow2, h.km.later gb, fun e => (h.ow e).later gb, h.m3, h.h0, h.h1, h.h2, h.h3, h.h4, h.h5, h.h6, h.h7, fun e => ⟨(h.h8 e).1, (h.h8 e).2.later gb⟩, h.h9, h.h10, h.h11, h.h12, h.h13, h.h14, h.h15, fun _ => ⟨rfl, hq.mono hsz⟩, fun e => absurd (h.s17 e).2 (by rw [hL]; decide), h.h20, h.h18, fun e e2 => absurd (h.s17 (h.s18 e)).2 (by rw [hL]; decide), h.h19, fun e => absurd (h.s17 (h.s18 (h.s19 e).2)).2 (by rw [hL]; decide), fun e => absurd (h.s17 e).2 (by rw [hL]; decide), h.s18, h.s19, h.s20⟩⟩
    | 17, _, hL, ho, hp =>
      simp only [List.getElem?_toArray, List.getElem?_cons_zero, List.getElem?_cons_succ, Option.some.injEq] at ho
      subst ho
      rw [if_pos (by simp [Region.wanted])]
      have p8 : L 8 = true := hp ⟨8, .data⟩ (by simp) rfl
      obtain ⟨rfl, hd8⟩ := h.h8 p8
      have p16 : L 16 = true := hp ⟨16, .data⟩ (by simp) rfl
      obtain ⟨rfl, hd16⟩ := h.h16 p16
      go_simp
      exact ⟨_, _, _, _, _, _, _, _, _, _, _, _, _, _, _, _, _, _, _, _, _, po, pn, pc, ro, rn, rc, zo, zn, zc, bq, rfl, ⟨h.low, h.km, h.ow, h.m3, h.h0, h.h1, h.h2, h.h3, h.h4, h.h5, h.h6, h.h7, h.h8, h.h9, h.h10, h.h11, h.h12, h.h13, h.h14, h.h15, h.h16, fun _ => rfl, h.h20, h.h18, h.b18, h.h19, h.ap, fun _ => ⟨p8, p16⟩, fun e => absurd (h.s18 e) (by rw [hL]; decide), h.s19, h.s20⟩⟩
    | 18, _, hL, ho, hp =>
      simp only [List.getElem?_toArray, List.getElem?_cons_zero, List.getElem?_cons_succ, Option.some.injEq] at ho
      subst ho
      have p17 : L 17 = true := hp ⟨17, .data⟩ (by simp) rfl
      obtain rfl := h.h17 p17
      rw [if_pos (by simp [Region.wanted])]
      go_simp
      have gb := (Gr.alloc X (.cells #[.slice po pn pc, .slice ro rn rc] 24)).below
      exact ⟨_, _, _, _, _, _, _, _, _, _, _, _, _, _, _, _, _, _, _, _, _, po, pn, pc, ro, rn, rc, zo, zn, zc, X.heap.size, rfl, ⟨below_later h.low gb, h.km.later gb, fun e => (h.ow e).later gb, h.m3, h.h0, h.h1, h.h2, h.h3, h.h4, h.h5, h.h6, h.h7, fun e => ⟨(h.h8 e).1, (h.h8 e).2.later gb⟩, h.h9, h.h10, h.h11, h.h12, h.h13, h.h14, h.h15, fun e => ⟨(h.h16 e).1, (h.h16 e).2.later gb⟩, h.h17, h.h20, fun _ => rfl, fun _ _ => Blk.new _ _ _, h.h19, fun e => absurd (h.s19 e).2 (by rw [hL]; decide), h.s17, fun _ => p17, fun e => absurd (h.s19 e).2 (by rw [hL]; decide), h.s20⟩⟩
    | 19, _, hL, ho, hp =>
      simp only [List.getElem?_toArray, List.getElem?_cons_zero, List.getElem?_cons_succ, Option.some.injEq] at ho
      subst ho
      have p0 : L 0 = true := hp ⟨0, .data⟩ (by simp) rfl
      obtain rfl := h.h0 p0
      have p18 : L 18 = true := hp ⟨18, .data⟩ (by simp) rfl
      obtain rfl := h.h18 p18
      obtain ⟨i0, hi0, hz0, hz1, hz2⟩ := infoT
      have hp8 := (h.h8 (h.s17 (h.s18 p18)).1).2
      have hp16 := (h.h16 (h.s17 (h.s18 p18)).2).2
      have hB18 := h.b18 p18 hL
      obtain ⟨l, hot⟩ := (h.ow hL).open
      have hlen := hot.len
      have hll : l.length ≤ 26 := by rw [hlen]; exact hLL
      have hap8 : ∀ e : L 8 = true, ∀ k, (Value.slice po pn pc).ownBlock = some k → (Value.slice oo nl cc).ownBlock ≠ some k := fun e => (h.h8 e).2.apart hot.own (by decide)
      have hap16 : ∀ e : L 16 = true, ∀ k, (Value.slice ro rn rc).ownBlock = some k → (Value.slice oo nl cc).ownBlock ≠ some k := fun e => (h.h16 e).2.apart hot.own (by decide)
      refine step_append_segE (E := tiE) rfl _ _ 45 (by rfl) w0.heap.size 24 i0 (.agg #[.slice none 0 0, .slice none 0 0]) 48 Try.underlying45 hi0 hz0 hz1 hz2 rfl _ l (by rfl) hot.own _ [⟨po, pn, pc, ro, rn, rc⟩] (by rfl) (SegE.of_blk (E := tiE) (l := [⟨po, pn, pc, ro, rn, rc⟩]) (cap := 1) hB18 (by simp) (by decide) rfl) (by simp) (by show (_ + 1) * 2 ≤ _; omega) (by show (_ + 1) * 48 ≤ _; omega) h.low.size ?_
      intro v' w3 hO3 hb3 hg3
      have hT : OwnT 53 24 w0.heap.size w3 v' (LK ++ [(l1, l2)]) := OwnT.snoc hot.own hot.len hot.each (x := ⟨po, pn, pc, ro, rn, rc⟩) ⟨hp8, hp16⟩ hO3 hg3 (by decide)
      obtain ⟨zo, zc, rfl⟩ := hT.shape
      have hkm3 := (hg3.block bm h.km.lt (fun e => hob bm e.symm rfl)).trans h.km
      exact ⟨_, _, _, _, _, _, _, _, _, _, _, _, _, _, _, _, _, _, _, _, _, po, pn, pc, ro, rn, rc, zo, _, zc, bq, rfl, ⟨h.low.trans hb3, hkm3, fun e => absurd ((upd_same L 19).symm.trans e) (by decide), h.m3, h.h0, h.h1, h.h2, h.h3, h.h4, h.h5, h.h6, h.h7, fun e => ⟨(h.h8 e).1, (h.h8 e).2.grown hg3 (hap8 e)⟩, h.h9, h.h10, h.h11, h.h12, h.h13, h.h14, h.h15, fun e => ⟨(h.h16 e).1, (h.h16 e).2.grown hg3 (hap16 e)⟩, h.h17, fun e => absurd (h.s20 e) (by rw [hL]; decide), h.h18, fun _ e => absurd ((upd_same L 19).symm.trans e) (by decide), fun _ => rfl, fun _ => hT, h.s17, h.s18, fun _ => ⟨p0, p18⟩, fun e => absurd (h.s20 e) (by rw [hL]; decide)⟩⟩
    | 20, _, hL, ho, hp =>
      simp only [List.getElem?_toArray, List.getElem?_cons_zero, List.getElem?_cons_succ, Option.some.injEq] at ho
      subst ho
      rw [if_pos (by simp [Region.wanted])]
      have p19 : L 19 = true := hp ⟨19, .data⟩ (by simp) rfl
      obtain rfl := h.h19 p19
      go_simp
      exact ⟨_, _, _, _, _, _, _, _, _, _, _, _, _, _, _, _, _, _, _, _, _, po, pn, pc, ro, rn, rc, zo, zn, zc, bq, rfl, ⟨h.low, h.km, h.ow, fun e => absurd ((upd_same L 20).symm.trans e) (by decide), h.h0, h.h1, h.h2, h.h3, h.h4, h.h5, h.h6, h.h7, h.h8, h.h9, h.h10, h.h11, h.h12, h.h13, h.h14, h.h15, h.h16, h.h17, fun _ => rfl, h.h18, h.b18, h.h19, h.ap, h.s17, h.s18, h.s19, fun _ => p19⟩⟩
end Go.Proofs.Ytlhigfphfbmbjaa


/- own of stage 13's laws; View: Of. -/
namespace Go.Proofs.Ytlhigfphfbmbjaa
open Go.RowKit Go.Proofs.Kit Go.Shelf
theorem cell_later9 {w w' : World} {p : Addr} {v : Value} (hb : Below w.heap.size w w') (h : w.cell? p = some v) : w'.cell? p = some v := (hb.cell (World.block_lt_of_cell? _ _ h)).trans h
set_option maxRecDepth 100000 in
set_option maxHeartbeats 4000000 in
theorem own13_any (o : Option Addr) (n c : Nat) (L : List Tr) (w : World) (hl : L.length = n) (hc : n ≤ c) (hm : c ≤ 9223372036854775807) (h : ArgT w o c L) :
    Calls Try.prog 31 #[.slice o n c] w fun e w' => ∃ v', e = .returned v' ∧ OwnT 53 24 w.heap.size w' v' (ownL L) ∧ Below w.heap.size w w' := by
  have HL := Lib.hid hl; clear hl
  have HA := Lib.hid h; clear h
  obtain ⟨i0, hi, hz0, hz1, hz2⟩ := infoT
  have hmix := mixed
  go_enter Try.func31, Try.ntmps31
  go_wp2
  go_loopw [3, 8] (fun s3 s8 wr => ∃ k : Nat, k ≤ n ∧ s8 = .int .i64 (k : Int) ∧ Hid (OwnT 53 24 w.heap.size wr s3 (ownL (L.take k))) ∧ Hid (Below w.heap.size w wr)) (fun _ s8 _ => n - (intOf s8).toNat)
  case atStart => exact ⟨0, Nat.zero_le _, rfl, Lib.hid (OwnT.nil _ _ _ _), Lib.hid (Below.refl _ _)⟩
  case round =>
    obtain ⟨k, hk, rfl, HO, HB⟩ := hrel
    by_cases hlt : k < n
    · have hkl : k < L.length := by have := HL.out; omega
      obtain ⟨a, x, rfl, d0, d1, ⟨q1, q2, q3, q4⟩, ⟨q5, q6, q7, q8⟩⟩ := HA.out.at hkl
      have d0 := cell_later9 HB.out d0
      have d1 := cell_later9 HB.out d1
      rw [add_pos a _ 1 (by decide)] at d1
      obtain ⟨ao, an, ac, bo, bn, bc⟩ := x
      simp only at d0 d1 q1 q2 q3 q4 q5 q6 q7 q8
      have gA := (Gr.alloc wr (.cells #[.slice ao an ac, .slice bo bn bc] 24)).below
      by_cases h26 : k < 26
      · have HN := Lib.hid (ownL_next hkl h26)
        have h26' : decide ((k : Int) < 26) = true := decide_eq_true (by omega)
        have HFA := Lib.hid (fun W (hb : Below w.heap.size w W) => cloneP_any ao (min an 16) ac (L[k].1.take 16) W (by rw [List.length_take]; omega) (by omega) ((q4.later hb).take 16))
        have HFB := Lib.hid (fun W (hb : Below w.heap.size w W) => cloneP_any bo (min bn 16) bc (L[k].2.take 16) W (by rw [List.length_take]; omega) (by omega) ((q8.later hb).take 16))
        obtain ⟨ka, hka⟩ : ∃ ka, ka = min an 16 := ⟨_, rfl⟩
        obtain ⟨kb, hkb⟩ : ∃ kb, kb = min bn 16 := ⟨_, rfl⟩
        rw [← hka] at HFA
        rw [← hkb] at HFB
        have m1 : min (an : Int) 16 = (ka : Int) := by omega
        have m2 : min (bn : Int) 16 = (kb : Int) := by omega
        have m3 : ka ≤ ac := by omega
        have m4 : kb ≤ bc := by omega
        clear hka hkb
        obtain ⟨oo, cc, rfl⟩ := HO.out.shape
        have hLL : (ownL (L.take k)).length ≤ 26 := ownL_len _
        obtain ⟨nl, hnl⟩ : ∃ nl, nl = (ownL (L.take k)).length := ⟨_, rfl⟩
        rw [← hnl] at HO ⊢
        have hob : ∀ g, (Value.slice oo nl cc).ownBlock = some g → g = wr.heap.size → False := fun g hg e => by
          obtain ⟨l, hot⟩ := HO.out.open
          have := (hot.own.lt g hg).2
          omega
        have HOB := Lib.hid hob
        have HAW := Lib.hid (fun W (hb : Below w.heap.size w W) => (HFA.out W hb))
        clear q1 q2 q3 q4 q5 q6 q7 q8 hnl h26 hob
        go_wp2_with fail
        obtain ⟨W1, hW1⟩ : ∃ W1, W1 = wr.alloc (.cells #[.slice ao an ac, .slice bo bn bc] 24) := ⟨_, rfl⟩
        have k1 : Blk W1 wr.heap.size #[.slice ao an ac, .slice bo bn bc] 24 := by rw [hW1]; exact Blk.new _ _ _
        have o1 : OwnT 53 24 w.heap.size W1 (.slice oo nl cc) (ownL (L.take k)) := by rw [hW1]; exact HO.out.later gA
        have g1 : Below w.heap.size w W1 := by rw [hW1]; exact below_later HB.out gA
        rw [← hW1]
        clear hW1 gA d0 d1
        refine Z15_region w wr.heap.size a n c k _ _ _ _ _ _ _ _ _ _ _ _ _ _ _ _ _ _ _ _ _ _ _ oo nl cc ao an ac bo bn bc ka kb (L[k].1.take 16) (L[k].2.take 16) (ownL (L.take k)) W1 _ rfl g1 k1 o1 HOB.out hLL m1 m2 m3 m4 HFA HFB ?_
        rintro L' t3 t15 t16 t17 t18 t19 t20 t21 t22 t23 t24 t25 t26 t27 t28 t29 t30 t31 t32 t33 t34 po pn pc ro rn rc zo zn zc bq X hall h
        have e3 := h.h20 (hall 20 (by decide))
        have HT := Lib.hid (show OwnT 53 24 w.heap.size X (.slice zo zn zc) (ownL (L.take (k + 1))) by rw [HN.out]; exact h.ap (hall 19 (by decide)))
        have HLow := Lib.hid h.low
        subst e3
        clear h hall k1 o1 g1 HFA HFB HOB HAW HO
        dsimp only
        go_wp2
        go_roundw
        case rel => exact ⟨k + 1, by omega, by go_num, HT, HLow⟩
        case measure => simp [intOf]; omega
      · have HN := Lib.hid (ownL_stay (L := L) h26)
        have h26' : decide ((k : Int) < 26) = false := decide_eq_false (by omega)
        clear q1 q2 q3 q4 q5 q6 q7 q8 h26
        go_wp2
        go_roundw
        case rel =>
          refine ⟨k + 1, by omega, by go_num, Lib.hid ?_, Lib.hid (below_later HB.out gA)⟩
          rw [HN.out]
          exact HO.out.later gA
        case measure => simp [intOf]; omega
    · have HT := Lib.hid (show L.take k = L from List.take_of_length_le (by have := HL.out; omega))
      go_wp2
      go_ret
      rw [HT.out] at HO
      exact ⟨_, rfl, HO.out, HB.out⟩
end Go.Proofs.Ytlhigfphfbmbjaa

