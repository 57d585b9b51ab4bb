import Derived.Test.YtlhigfphfbmbjaaMC
import Derived.Test.YtlhigfphfbmbjaaW17
/- own of stage 12's laws: a tier in memory of the call's own. Its region by one invariant (tools/gen_m15.py). -/
namespace Go.Proofs.Ytlhigfphfbmbjaa
open Go.RowKit Go.Proofs.Kit Go.Shelf
structure OT12I (w0 : World) (bm br : Nat) (ao : Option Addr) (an ac : Nat) (bo : Option Addr) (bn bc : Nat) (ka kb : Nat) (l1 l2 : List Pr) (L : Nat → Bool) (w : World) (t3 t4 t5 t6 t7 t8 t9 t10 t11 t12 t13 t14 t15 t16 t17 t18 t19 : Value) (po : Option Addr) (pn : Nat) (pc : Nat) (ro : Option Addr) (rn : Nat) (rc : Nat) : Prop where
  low : Below w0.heap.size w0 w
  km : Blk w bm #[.slice ao an ac, .slice bo bn bc] 24
  kr0 : L 17 = false → Blk w br #[.slice none 0 0, .slice none 0 0] 24
  h0 : L 0 = true → t3 = .pointer (some ⟨bm, 0, none⟩)
  h1 : L 1 = true → t4 = .slice ao an ac
  h2 : L 2 = true → t5 = .pointer (some ⟨bm, 0, none⟩)
  h3 : L 3 = true → t6 = .slice ao an ac
  h4 : L 4 = true → t7 = .int .i64 (an : Int)
  h5 : L 5 = true → t8 = .int .i64 (ka : Int)
  h6 : L 6 = true → t9 = .slice ao ka ac
  h7 : L 7 = true → t10 = .slice po pn pc ∧ OwnP 53 w0.heap.size w (.slice po pn pc) l1
  h8 : L 8 = true → t11 = .pointer (some ⟨bm, 1, none⟩)
  h9 : L 9 = true → t12 = .slice bo bn bc
  h10 : L 10 = true → t13 = .pointer (some ⟨bm, 1, none⟩)
  h11 : L 11 = true → t14 = .slice bo bn bc
  h12 : L 12 = true → t15 = .int .i64 (bn : Int)
  h13 : L 13 = true → t16 = .int .i64 (kb : Int)
  h14 : L 14 = true → t17 = .slice bo kb bc
  h15 : L 15 = true → t18 = .slice ro rn rc ∧ OwnP 53 w0.heap.size w (.slice ro rn rc) l2
  h16 : L 16 = true → t19 = .agg #[.slice po pn pc, .slice ro rn rc]
  kr1 : L 17 = true → Blk w br #[.slice po pn pc, .slice ro rn rc] 24
  s7 : L 16 = true → L 7 = true
  s15 : L 16 = true → L 15 = true
  s16 : L 17 = true → L 16 = true
def OT12V (w0 : World) (bm br : Nat) (ao : Option Addr) (an ac : Nat) (bo : Option Addr) (bn bc : Nat) (ka kb : Nat) (l1 l2 : List Pr) (L : Nat → Bool) (a : Act) (X : World) : Prop :=
  ∃ t3 t4 t5 t6 t7 t8 t9 t10 t11 t12 t13 t14 t15 t16 t17 t18 t19 po pn pc ro rn rc, a = { tmps := #[.agg #[.slice ao an ac, .slice bo bn bc], .pointer (some ⟨bm, 0, none⟩), .pointer (some ⟨br, 0, none⟩), t3, t4, t5, t6, t7, t8, t9, t10, t11, t12, t13, t14, t15, t16, t17, t18, t19], defers := [] } ∧ OT12I w0 bm br ao an ac bo bn bc ka kb l1 l2 L X t3 t4 t5 t6 t7 t8 t9 t10 t11 t12 t13 t14 t15 t16 t17 t18 t19 po pn pc ro rn rc
set_option maxRecDepth 100000 in
set_option maxHeartbeats 16000000 in
theorem OT12_region {Q : Exit → Act → World → Prop} (w0 : World) (bm br : Nat) (ao : Option Addr) (an ac : Nat) (bo : Option Addr) (bn bc : Nat) (ka kb : Nat) (l1 l2 : List Pr) (W : World) (a : Act) (ha : a = { tmps := #[.agg #[.slice ao an ac, .slice bo bn bc], .pointer (some ⟨bm, 0, none⟩), .pointer (some ⟨br, 0, none⟩), undef, undef, undef, undef, undef, undef, undef, undef, undef, undef, undef, undef, undef, undef, undef, undef, undef], defers := [] }) (hlow : Below w0.heap.size w0 W) (hkm : Blk W bm #[.slice ao an ac, .slice bo bn bc] 24) (hkr : Blk W br #[.slice none 0 0, .slice none 0 0] 24)
    (hge : w0.heap.size ≤ br) (hne : bm ≠ br) (hma : min (an : Int) 24 = (ka : Int)) (hmb : min (bn : Int) 24 = (kb : Int)) (hka : ka ≤ ac) (hkb : kb ≤ bc) (Ha : Hid (∀ W, Below w0.heap.size w0 W → Calls Try.prog 47 #[.slice ao ka ac] W fun e w' => ∃ v', e = .returned v' ∧ OwnP 53 W.heap.size w' v' l1 ∧ Below W.heap.size W w'))
    (Hb : Hid (∀ W, Below w0.heap.size w0 W → Calls Try.prog 47 #[.slice bo kb bc] W fun e w' => ∃ v', e = .returned v' ∧ OwnP 53 W.heap.size w' v' l2 ∧ Below W.heap.size W w'))
    (hQ : ∀ L t3 t4 t5 t6 t7 t8 t9 t10 t11 t12 t13 t14 t15 t16 t17 t18 t19 po pn pc ro rn rc X, (∀ i, i < 18 → L i = true) → OT12I w0 bm br ao an ac bo bn bc ka kb l1 l2 L X t3 t4 t5 t6 t7 t8 t9 t10 t11 t12 t13 t14 t15 t16 t17 t18 t19 po pn pc ro rn rc → Q .normal { tmps := #[.agg #[.slice ao an ac, .slice bo bn bc], .pointer (some ⟨bm, 0, none⟩), .pointer (some ⟨br, 0, none⟩), t3, t4, t5, t6, t7, t8, t9, t10, t11, t12, t13, t14, t15, t16, t17, t18, t19], defers := [] } X) :
    (Code.region 1 #[{ dst := some 3, op := Op.fieldAddr 24 (Operand.tmp 1) 0, type := 0, pos := "law.go:30", after := #[], guard := none }, { dst := some 4, op := Op.load 22 (Operand.tmp 3), type := 22, pos := "law.go:30", after := #[{ on := 0, ground := Ground.data }], guard := none }, { dst := some 5, op := Op.fieldAddr 24 (Operand.tmp 1) 0, type := 0, pos := "law.go:30", after := #[], guard := none }, { dst := some 6, op := Op.load 22 (Operand.tmp 5), type := 22, pos := "law.go:30", after := #[{ on := 2, ground := Ground.data }], guard := none }, { dst := some 7, op := Op.call { callee := Callee.builtin Builtin.len, args := #[Operand.tmp 6], argTypes := #[22] }, type := 3, pos := "law.go:30", after := #[{ on := 3, ground := Ground.data }], guard := none }, { dst := some 8, op := Op.call { callee := Callee.builtin Builtin.min, args := #[Operand.tmp 7, Operand.const (Value.int IntKind.i64 24)], argTypes := #[3, 3] }, type := 3, pos := "law.go:30", after := #[{ on := 4, ground := Ground.data }], guard := none }, { dst := some 9, op := Op.slice 22 (Operand.tmp 4) none (some (Operand.tmp 8)) none, type := 22, pos := "law.go:30", after := #[{ on := 1, ground := Ground.data }, { on := 5, ground := Ground.data }], guard := none }, { dst := some 10, op := Op.call { callee := Callee.value (Operand.func 47), args := #[Operand.tmp 9], argTypes := #[22] }, type := 22, pos := "law.go:30", after := #[{ on := 6, ground := Ground.data }], guard := none }, { dst := some 11, op := Op.fieldAddr 24 (Operand.tmp 1) 1, type := 0, pos := "law.go:30", after := #[], guard := none }, { dst := some 12, op := Op.load 22 (Operand.tmp 11), type := 22, pos := "law.go:30", after := #[{ on := 8, ground := Ground.data }], guard := none }, { dst := some 13, op := Op.fieldAddr 24 (Operand.tmp 1) 1, type := 0, pos := "law.go:30", after := #[], guard := none }, { dst := some 14, op := Op.load 22 (Operand.tmp 13), type := 22, pos := "law.go:30", after := #[{ on := 10, ground := Ground.data }], guard := none }, { dst := some 15, op := Op.call { callee := Callee.builtin Builtin.len, args := #[Operand.tmp 14], argTypes := #[22] }, type := 3, pos := "law.go:30", after := #[{ on := 11, ground := Ground.data }], guard := none }, { dst := some 16, op := Op.call { callee := Callee.builtin Builtin.min, args := #[Operand.tmp 15, Operand.const (Value.int IntKind.i64 24)], argTypes := #[3, 3] }, type := 3, pos := "law.go:30", after := #[{ on := 12, ground := Ground.data }], guard := none }, { dst := some 17, op := Op.slice 22 (Operand.tmp 12) none (some (Operand.tmp 16)) none, type := 22, pos := "law.go:30", after := #[{ on := 9, ground := Ground.data }, { on := 13, ground := Ground.data }], guard := none }, { dst := some 18, op := Op.call { callee := Callee.value (Operand.func 47), args := #[Operand.tmp 17], argTypes := #[22] }, type := 22, pos := "law.go:30", after := #[{ on := 14, ground := Ground.data }, { on := 7, ground := Ground.chain }], guard := none }, { dst := some 19, op := Op.build 24 #[(0, Operand.tmp 10), (1, Operand.tmp 18)], type := 24, pos := "law.go:30", after := #[{ on := 7, ground := Ground.data }, { on := 15, ground := Ground.data }], guard := none }, { dst := none, op := Op.store 24 (Operand.tmp 2) (Operand.tmp 19), type := 0, pos := "law.go:30", after := #[{ on := 16, ground := Ground.data }, { on := 15, ground := Ground.chain }, { on := 0, ground := Ground.phase }, { on := 1, ground := Ground.phase }, { on := 2, ground := Ground.phase }, { on := 3, ground := Ground.phase }, { on := 4, ground := Ground.phase }, { on := 5, ground := Ground.phase }, { on := 6, ground := Ground.phase }, { on := 7, ground := Ground.phase }, { on := 8, ground := Ground.phase }, { on := 9, ground := Ground.phase }, { on := 10, ground := Ground.phase }, { on := 11, ground := Ground.phase }, { on := 12, ground := Ground.phase }, { on := 13, ground := Ground.phase }, { on := 14, ground := Ground.phase }, { on := 15, ground := Ground.phase }, { on := 16, ground := Ground.phase }], guard := none }] true).wp Try.prog Q a W := by
  have hmix := mixed
  refine wp_region_inv hmix (Inv := OT12V w0 bm br ao an ac bo bn bc ka kb l1 l2) (by kernel_rfl) ?h0 ?hstep ?hdone
  case h0 =>
    subst ha
    exact ⟨undef, undef, undef, undef, undef, undef, undef, undef, undef, undef, undef, undef, undef, undef, undef, undef, undef, none, 0, 0, none, 0, 0, rfl, ⟨hlow.drew, hkm.drew, fun _ => hkr.drew, nofun, nofun, nofun, nofun, nofun, nofun, nofun, nofun, nofun, nofun, nofun, nofun, nofun, nofun, nofun, nofun, nofun, nofun, nofun, nofun, nofun⟩⟩
  case hdone =>
    rintro L a X ⟨t3, t4, t5, t6, t7, t8, t9, t10, t11, t12, t13, t14, t15, t16, t17, t18, t19, po, pn, pc, ro, rn, rc, rfl, h⟩ hall
    exact hQ L t3 t4 t5 t6 t7 t8 t9 t10 t11 t12 t13 t14 t15 t16 t17 t18 t19 po pn pc ro rn rc X hall h
  case hstep =>
    clear hQ ha
    rintro L a X i op ⟨t3, t4, t5, t6, t7, t8, t9, t10, t11, t12, t13, t14, t15, t16, t17, t18, t19, po, pn, pc, ro, rn, rc, rfl, h⟩ hL ho hp
    have hi : i < 18 := (Array.getElem?_eq_some_iff.1 ho).1
    match i, hi, hL, ho, hp with
    | 0, _, hL, ho, hp =>
      simp only [List.getElem?_toArray, List.getElem?_cons_zero, Option.some.injEq] at ho
      subst ho
      rw [if_pos (by simp [Region.wanted])]
      go_simp
      exact ⟨_, _, _, _, _, _, _, _, _, _, _, _, _, _, _, _, _, po, pn, pc, ro, rn, rc, rfl, ⟨h.low, h.km, h.kr0, fun _ => rfl, h.h1, h.h2, h.h3, h.h4, h.h5, h.h6, h.h7, h.h8, h.h9, h.h10, h.h11, h.h12, h.h13, h.h14, h.h15, h.h16, h.kr1, h.s7, h.s15, h.s16⟩⟩
    | 1, _, hL, ho, hp =>
      simp only [List.getElem?_toArray, List.getElem?_cons_zero, List.getElem?_cons_succ, Option.some.injEq] at ho
      subst ho
      rw [if_pos (by simp [Region.wanted])]
      have p0 : L 0 = true := hp ⟨0, .data⟩ (by simp) rfl
      obtain rfl := h.h0 p0
      have ckm0 := h.km.cell 0
      have lkm := h.km.lt
      simp only [List.getElem?_toArray, List.getElem?_cons_zero] at ckm0
      go_simp
      exact ⟨_, _, _, _, _, _, _, _, _, _, _, _, _, _, _, _, _, po, pn, pc, ro, rn, rc, rfl, ⟨h.low, h.km, h.kr0, h.h0, fun _ => rfl, h.h2, h.h3, h.h4, h.h5, h.h6, h.h7, h.h8, h.h9, h.h10, h.h11, h.h12, h.h13, h.h14, h.h15, h.h16, h.kr1, h.s7, h.s15, h.s16⟩⟩
    | 2, _, hL, ho, hp =>
      simp only [List.getElem?_toArray, List.getElem?_cons_zero, List.getElem?_cons_succ, Option.some.injEq] at ho
      subst ho
      rw [if_pos (by simp [Region.wanted])]
      go_simp
      exact ⟨_, _, _, _, _, _, _, _, _, _, _, _, _, _, _, _, _, po, pn, pc, ro, rn, rc, rfl, ⟨h.low, h.km, h.kr0, h.h0, h.h1, fun _ => rfl, h.h3, h.h4, h.h5, h.h6, h.h7, h.h8, h.h9, h.h10, h.h11, h.h12, h.h13, h.h14, h.h15, h.h16, h.kr1, h.s7, h.s15, h.s16⟩⟩
    | 3, _, hL, ho, hp =>
      simp only [List.getElem?_toArray, List.getElem?_cons_zero, List.getElem?_cons_succ, Option.some.injEq] at ho
      subst ho
      rw [if_pos (by simp [Region.wanted])]
      have p2 : L 2 = true := hp ⟨2, .data⟩ (by simp) rfl
      obtain rfl := h.h2 p2
      have ckm0 := h.km.cell 0
      have lkm := h.km.lt
      simp only [List.getElem?_toArray, List.getElem?_cons_zero] at ckm0
      go_simp
      exact ⟨_, _, _, _, _, _, _, _, _, _, _, _, _, _, _, _, _, po, pn, pc, ro, rn, rc, rfl, ⟨h.low, h.km, h.kr0, h.h0, h.h1, h.h2, fun _ => rfl, h.h4, h.h5, h.h6, h.h7, h.h8, h.h9, h.h10, h.h11, h.h12, h.h13, h.h14, h.h15, h.h16, h.kr1, h.s7, h.s15, h.s16⟩⟩
    | 4, _, hL, ho, hp =>
      simp only [List.getElem?_toArray, List.getElem?_cons_zero, List.getElem?_cons_succ, Option.some.injEq] at ho
      subst ho
      rw [if_pos (by simp [Region.wanted])]
      have p3 : L 3 = true := hp ⟨3, .data⟩ (by simp) rfl
      obtain rfl := h.h3 p3
      go_simp
      exact ⟨_, _, _, _, _, _, _, _, _, _, _, _, _, _, _, _, _, po, pn, pc, ro, rn, rc, rfl, ⟨h.low, h.km, h.kr0, h.h0, h.h1, h.h2, h.h3, fun _ => rfl, h.h5, h.h6, h.h7, h.h8, h.h9, h.h10, h.h11, h.h12, h.h13, h.h14, h.h15, h.h16, h.kr1, h.s7, h.s15, h.s16⟩⟩
    | 5, _, hL, ho, hp =>
      simp only [List.getElem?_toArray, List.getElem?_cons_zero, List.getElem?_cons_succ, Option.some.injEq] at ho
      subst ho
      rw [if_pos (by simp [Region.wanted])]
      have p4 : L 4 = true := hp ⟨4, .data⟩ (by simp) rfl
      obtain rfl := h.h4 p4
      have hmin := hma
      go_simp
      exact ⟨_, _, _, _, _, _, _, _, _, _, _, _, _, _, _, _, _, po, pn, pc, ro, rn, rc, rfl, ⟨h.low, h.km, h.kr0, h.h0, h.h1, h.h2, h.h3, h.h4, fun _ => rfl, h.h6, h.h7, h.h8, h.h9, h.h10, h.h11, h.h12, h.h13, h.h14, h.h15, h.h16, h.kr1, h.s7, h.s15, h.s16⟩⟩
    | 6, _, hL, ho, hp =>
      simp only [List.getElem?_toArray, List.getElem?_cons_zero, List.getElem?_cons_succ, Option.some.injEq] at ho
      subst ho
      rw [if_pos (by simp [Region.wanted])]
      have p1 : L 1 = true := hp ⟨1, .data⟩ (by simp) rfl
      obtain rfl := h.h1 p1
      have p5 : L 5 = true := hp ⟨5, .data⟩ (by simp) rfl
      obtain rfl := h.h5 p5
      have hk1 := hka
      have hk2 : (ka : Int) ≤ (ac : Int) := by omega
      have hk3 : (0 : Int) ≤ (ka : Int) := by omega
      go_simp
      exact ⟨_, _, _, _, _, _, _, _, _, _, _, _, _, _, _, _, _, po, pn, pc, ro, rn, rc, rfl, ⟨h.low, h.km, h.kr0, h.h0, h.h1, h.h2, h.h3, h.h4, h.h5, fun _ => rfl, h.h7, h.h8, h.h9, h.h10, h.h11, h.h12, h.h13, h.h14, h.h15, h.h16, h.kr1, h.s7, h.s15, h.s16⟩⟩
    | 7, _, hL, ho, hp =>
      simp only [List.getElem?_toArray, List.getElem?_cons_zero, List.getElem?_cons_succ, Option.some.injEq] at ho
      subst ho
      rw [if_pos (by simp [Region.wanted])]
      have p6 : L 6 = true := hp ⟨6, .data⟩ (by simp) rfl
      obtain rfl := h.h6 p6
      go_simp
      go_at_call 47
      (with_reducible refine (Ha.out _ h.low).mono ?_)
      rintro e X2 ⟨q, rfl, hq, gb⟩
      obtain ⟨qo, qn, qc, rfl⟩ := hq.any
      have hsz := h.low.size
      have hlow2 := below_later h.low gb
      exact ⟨_, _, _, _, _, _, _, _, _, _, _, _, _, _, _, _, _, qo, qn, qc, ro, rn, rc, rfl, ⟨hlow2, h.km.later gb, fun e => (h.kr0 e).later gb, h.h0, h.h1, h.h2, h.h3, h.h4, h.h5, h.h6, fun _ => ⟨rfl, hq.mono hsz⟩, h.h8, h.h9, h.h10, h.h11, h.h12, h.h13, h.h14, fun e => ⟨(h.h15 e).1, (h.h15 e).2.later gb⟩, fun e => absurd (h.s7 e) (by rw [hL]; decide), fun e => absurd (h.s7 (h.s16 e)) (by rw [hL]; decide), fun _ => rfl, h.s15, h.s16⟩⟩
    | 8, _, hL, ho, hp =>
      simp only [List.getElem?_toArray, List.getElem?_cons_zero, List.getElem?_cons_succ, Option.some.injEq] at ho
      subst ho
      rw [if_pos (by simp [Region.wanted])]
      go_simp
      exact ⟨_, _, _, _, _, _, _, _, _, _, _, _, _, _, _, _, _, po, pn, pc, ro, rn, rc, rfl, ⟨h.low, h.km, h.kr0, h.h0, h.h1, h.h2, h.h3, h.h4, h.h5, h.h6, h.h7, fun _ => rfl, h.h9, h.h10, h.h11, h.h12, h.h13, h.h14, h.h15, h.h16, h.kr1, h.s7, h.s15, h.s16⟩⟩
    | 9, _, hL, ho, hp =>
      simp only [List.getElem?_toArray, List.getElem?_cons_zero, List.getElem?_cons_succ, Option.some.injEq] at ho
      subst ho
      rw [if_pos (by simp [Region.wanted])]
      have p8 : L 8 = true := hp ⟨8, .data⟩ (by simp) rfl
      obtain rfl := h.h8 p8
      have ckm1 := h.km.cell 1
      have lkm := h.km.lt
      simp only [List.getElem?_toArray, List.getElem?_cons_zero, List.getElem?_cons_succ] at ckm1
      go_simp
      exact ⟨_, _, _, _, _, _, _, _, _, _, _, _, _, _, _, _, _, po, pn, pc, ro, rn, rc, rfl, ⟨h.low, h.km, h.kr0, h.h0, h.h1, h.h2, h.h3, h.h4, h.h5, h.h6, h.h7, h.h8, fun _ => rfl, h.h10, h.h11, h.h12, h.h13, h.h14, h.h15, h.h16, h.kr1, h.s7, h.s15, h.s16⟩⟩
    | 10, _, hL, ho, hp =>
      simp only [List.getElem?_toArray, List.getElem?_cons_zero, List.getElem?_cons_succ, Option.some.injEq] at ho
      subst ho
      rw [if_pos (by simp [Region.wanted])]
      go_simp
      exact ⟨_, _, _, _, _, _, _, _, _, _, _, _, _, _, _, _, _, po, pn, pc, ro, rn, rc, rfl, ⟨h.low, h.km, h.kr0, h.h0, h.h1, h.h2, h.h3, h.h4, h.h5, h.h6, h.h7, h.h8, h.h9, fun _ => rfl, h.h11, h.h12, h.h13, h.h14, h.h15, h.h16, h.kr1, h.s7, h.s15, h.s16⟩⟩
    | 11, _, hL, ho, hp =>
      simp only [List.getElem?_toArray, List.getElem?_cons_zero, List.getElem?_cons_succ, Option.some.injEq] at ho
      subst ho
      rw [if_pos (by simp [Region.wanted])]
      have p10 : L 10 = true := hp ⟨10, .data⟩ (by simp) rfl
      obtain rfl := h.h10 p10
      have ckm1 := h.km.cell 1
      have lkm := h.km.lt
      simp only [List.getElem?_toArray, List.getElem?_cons_zero, List.getElem?_cons_succ] at ckm1
      go_simp
      exact ⟨_, _, _, _, _, _, _, _, _, _, _, _, _, _, _, _, _, po, pn, pc, ro, rn, rc, rfl, ⟨h.low, h.km, h.kr0, h.h0, h.h1, h.h2, h.h3, h.h4, h.h5, h.h6, h.h7, h.h8, h.h9, h.h10, fun _ => rfl, h.h12, h.h13, h.h14, h.h15, h.h16, h.kr1, h.s7, h.s15, h.s16⟩⟩
    | 12, _, hL, ho, hp =>
      simp only [List.getElem?_toArray, List.getElem?_cons_zero, List.getElem?_cons_succ, Option.some.injEq] at ho
      subst ho
      rw [if_pos (by simp [Region.wanted])]
      have p11 : L 11 = true := hp ⟨11, .data⟩ (by simp) rfl
      obtain rfl := h.h11 p11
      go_simp
      exact ⟨_, _, _, _, _, _, _, _, _, _, _, _, _, _, _, _, _, po, pn, pc, ro, rn, rc, rfl, ⟨h.low, h.km, h.kr0, h.h0, h.h1, h.h2, h.h3, h.h4, h.h5, h.h6, h.h7, h.h8, h.h9, h.h10, h.h11, fun _ => rfl, h.h13, h.h14, h.h15, h.h16, h.kr1, h.s7, h.s15, h.s16⟩⟩
    | 13, _, hL, ho, hp =>
      simp only [List.getElem?_toArray, List.getElem?_cons_zero, List.getElem?_cons_succ, Option.some.injEq] at ho
      subst ho
      rw [if_pos (by simp [Region.wanted])]
      have p12 : L 12 = true := hp ⟨12, .data⟩ (by simp) rfl
      obtain rfl := h.h12 p12
      have hmin := hmb
      go_simp
      exact ⟨_, _, _, _, _, _, _, _, _, _, _, _, _, _, _, _, _, po, pn, pc, ro, rn, rc, rfl, ⟨h.low, h.km, h.kr0, h.h0, h.h1, h.h2, h.h3, h.h4, h.h5, h.h6, h.h7, h.h8, h.h9, h.h10, h.h11, h.h12, fun _ => rfl, h.h14, h.h15, h.h16, h.kr1, h.s7, h.s15, h.s16⟩⟩
    | 14, _, hL, ho, hp =>
      simp only [List.getElem?_toArray, List.getElem?_cons_zero, List.getElem?_cons_succ, Option.some.injEq] at ho
      subst ho
      rw [if_pos (by simp [Region.wanted])]
      have p9 : L 9 = true := hp ⟨9, .data⟩ (by simp) rfl
      obtain rfl := h.h9 p9
      have p13 : L 13 = true := hp ⟨13, .data⟩ (by simp) rfl
      obtain rfl := h.h13 p13
      have hk1 := hkb
      have hk2 : (kb : Int) ≤ (bc : Int) := by omega
      have hk3 : (0 : Int) ≤ (kb : Int) := by omega
      go_simp
      exact ⟨_, _, _, _, _, _, _, _, _, _, _, _, _, _, _, _, _, po, pn, pc, ro, rn, rc, rfl, ⟨h.low, h.km, h.kr0, h.h0, h.h1, h.h2, h.h3, h.h4, h.h5, h.h6, h.h7, h.h8, h.h9, h.h10, h.h11, h.h12, h.h13, fun _ => rfl, h.h15, h.h16, h.kr1, h.s7, h.s15, h.s16⟩⟩
    | 15, _, hL, ho, hp =>
      simp only [List.getElem?_toArray, List.getElem?_cons_zero, List.getElem?_cons_succ, Option.some.injEq] at ho
      subst ho
      rw [if_pos (by simp [Region.wanted])]
      have p14 : L 14 = true := hp ⟨14, .data⟩ (by simp) rfl
      obtain rfl := h.h14 p14
      go_simp
      go_at_call 47
      (with_reducible refine (Hb.out _ h.low).mono ?_)
      rintro e X2 ⟨q, rfl, hq, gb⟩
      obtain ⟨qo, qn, qc, rfl⟩ := hq.any
      have hsz := h.low.size
      have hlow2 := below_later h.low gb
      exact ⟨_, _, _, _, _, _, _, _, _, _, _, _, _, _, _, _, _, po, pn, pc, qo, qn, qc, rfl, ⟨hlow2, h.km.later gb, fun e => (h.kr0 e).later gb, h.h0, h.h1, h.h2, h.h3, h.h4, h.h5, h.h6, fun e => ⟨(h.h7 e).1, (h.h7 e).2.later gb⟩, h.h8, h.h9, h.h10, h.h11, h.h12, h.h13, h.h14, fun _ => ⟨rfl, hq.mono hsz⟩, fun e => absurd (h.s15 e) (by rw [hL]; decide), fun e => absurd (h.s15 (h.s16 e)) (by rw [hL]; decide), h.s7, fun _ => rfl, h.s16⟩⟩
    | 16, _, hL, ho, hp =>
      simp only [List.getElem?_toArray, List.getElem?_cons_zero, List.getElem?_cons_succ, Option.some.injEq] at ho
      subst ho
      rw [if_pos (by simp [Region.wanted])]
      have p7 : L 7 = true := hp ⟨7, .data⟩ (by simp) rfl
      obtain ⟨rfl, hd7⟩ := h.h7 p7
      have p15 : L 15 = true := hp ⟨15, .data⟩ (by simp) rfl
      obtain ⟨rfl, hd15⟩ := h.h15 p15
      go_simp
      exact ⟨_, _, _, _, _, _, _, _, _, _, _, _, _, _, _, _, _, po, pn, pc, ro, rn, rc, rfl, ⟨h.low, h.km, h.kr0, h.h0, h.h1, h.h2, h.h3, h.h4, h.h5, h.h6, h.h7, h.h8, h.h9, h.h10, h.h11, h.h12, h.h13, h.h14, h.h15, fun _ => rfl, h.kr1, fun _ => p7, fun _ => p15, fun _ => rfl⟩⟩
    | 17, _, hL, ho, hp =>
      simp only [List.getElem?_toArray, List.getElem?_cons_zero, List.getElem?_cons_succ, Option.some.injEq] at ho
      subst ho
      rw [if_pos (by simp [Region.wanted])]
      have p16 : L 16 = true := hp ⟨16, .data⟩ (by simp) rfl
      obtain rfl := h.h16 p16
      have hkr := h.kr0 hL
      have c0 := hkr.cell 0
      have c1 := hkr.cell 1
      have f0 := hkr.frozen 0
      have f1 := hkr.frozen 1
      have lr := hkr.lt
      simp only [List.getElem?_toArray, List.getElem?_cons_zero, List.getElem?_cons_succ] at c0 c1
      go_simp
      exact ⟨_, _, _, _, _, _, _, _, _, _, _, _, _, _, _, _, _, po, pn, pc, ro, rn, rc, rfl, ⟨(h.low.setCell (p := ⟨br, 0, none⟩) hge _).setCell (p := ⟨br, 1, none⟩) hge _, (h.km.other (p := ⟨br, 0, none⟩) hne _).other (p := ⟨br, 1, none⟩) hne _, fun e => absurd ((upd_same L 17).symm.trans e) (by decide), h.h0, h.h1, h.h2, h.h3, h.h4, h.h5, h.h6, fun e => ⟨(h.h7 e).1, (h.h7 e).2.otherB2 hkr (by decide) 0 1 _ _⟩, h.h8, h.h9, h.h10, h.h11, h.h12, h.h13, h.h14, fun e => ⟨(h.h15 e).1, (h.h15 e).2.otherB2 hkr (by decide) 0 1 _ _⟩, h.h16, fun _ => hkr.setT, h.s7, h.s15, fun _ => p16⟩⟩
/-- The first 24 of a tier's rows. -/
def few24 (t : Tr) : Tr := (t.1.take 24, t.2.take 24)
theorem min24 (n : Nat) : min (n : Int) 24 = ((min n 24 : Nat) : Int) := by omega
set_option maxRecDepth 100000 in
set_option maxHeartbeats 4000000 in
theorem ownT12_any (x : Ti) (t : Tr) (w : World) (h1 : t.1.length = x.an ∧ x.an ≤ x.ac ∧ x.ac ≤ 9223372036854775807 ∧ ArgP w x.ao x.ac t.1) (h2 : t.2.length = x.bn ∧ x.bn ≤ x.bc ∧ x.bc ≤ 9223372036854775807 ∧ ArgP w x.bo x.bc t.2) :
    Calls Try.prog 25 #[.agg #[x.av, x.bv]] w fun e w' => ∃ y : Ti, e = .returned (.agg #[y.av, y.bv]) ∧ OwnQ 53 w.heap.size w' y (few24 t) ∧ Below w.heap.size w w' := by
  obtain ⟨ao, an, ac, bo, bn, bc⟩ := x
  simp only at h1 h2
  obtain ⟨a1, a2, a3, a4⟩ := h1
  obtain ⟨b1, b2, b3, b4⟩ := h2
  have HA := Lib.hid (fun W (hb : Below w.heap.size w W) => cloneP_any ao (min an 24) ac (t.1.take 24) W (by rw [List.length_take]; omega) (by omega) ((a4.later hb).take 24))
  have HB := Lib.hid (fun W (hb : Below w.heap.size w W) => cloneP_any bo (min bn 24) bc (t.2.take 24) W (by rw [List.length_take]; omega) (by omega) ((b4.later hb).take 24))
  simp only [Ti.av, Ti.bv]
  clear a1 a4 b1 b4
  go_enter Try.func25, Try.ntmps25
  go_wp2_with fail
  obtain ⟨W1, hW1⟩ : ∃ W1, W1 = (w.alloc (.cells #[.slice ao an ac, .slice bo bn bc] 24)).alloc (.cells #[.slice none 0 0, .slice none 0 0] 24) := ⟨_, rfl⟩
  have G1 : Gr w W1 := by rw [hW1]; exact (Gr.alloc _ _).trans (Gr.alloc _ _)
  have k0 : Blk W1 w.heap.size #[.slice ao an ac, .slice bo bn bc] 24 := by rw [hW1]; exact (Blk.new _ _ _).alloc _
  have k1 : Blk W1 (w.heap.size + 1) #[.slice none 0 0, .slice none 0 0] 24 := by
    rw [hW1]
    have := Blk.new (w.alloc (.cells #[.slice ao an ac, .slice bo bn bc] 24)) #[.slice none 0 0, .slice none 0 0] 24
    simpa using this
  rw [← hW1]
  clear hW1
  refine OT12_region w w.heap.size (w.heap.size + 1) ao an ac bo bn bc (min an 24) (min bn 24) (t.1.take 24) (t.2.take 24) W1 _ rfl G1.below k0 k1 (Nat.le_succ _) (Nat.ne_of_lt (Nat.lt_succ_self _)) (min24 an) (min24 bn) (by omega) (by omega) HA HB ?_
  rintro L t3 t4 t5 t6 t7 t8 t9 t10 t11 t12 t13 t14 t15 t16 t17 t18 t19 po pn pc ro rn rc X hall h
  have kr := h.kr1 (hall 17 (by decide))
  have hP := (h.h7 (hall 7 (by decide))).2
  have hR := (h.h15 (hall 15 (by decide))).2
  have hlow := h.low
  have C0 := kr.cell 0
  have C1 := kr.cell 1
  simp only [List.getElem?_toArray, List.getElem?_cons_zero, List.getElem?_cons_succ] at C0 C1
  clear h hall G1 k0 k1 HA HB kr
  go_wp2
  exact bodyPost_ret (v := .agg #[.slice po pn pc, .slice ro rn rc]) (by simp [results, Try.results25, go_sem, C0, C1]) rfl ⟨⟨po, pn, pc, ro, rn, rc⟩, rfl, ⟨hP, hR⟩, hlow⟩
end Go.Proofs.Ytlhigfphfbmbjaa


/- wakes of stage 12's laws: the last region, by one invariant (tools/gen_m16.py). -/
namespace Go.Proofs.Ytlhigfphfbmbjaa
open Go.RowKit Go.Proofs.Kit Go.Shelf
structure WKI (w0 : World) (bm bt : Nat) (t00 a0 a1 a2 a3 a6 a7 rA rB s1 s2 s3 s8 s13 s15 s16 s17 s18 s19 s20 s21 s22 s23 s24 s25 s26 s27 s28 s29 s30 s31 s32 s33 s34 s35 s36 s37 s38 s39 s40 s41 s42 s43 s44 s45 s46 s47 s48 s49 s50 s51 s52 s53 : Value) (L : Nat → Bool) (w : World) (t0 t54 t55 t56 t57 t58 t59 t60 t61 t62 t63 t64 t65 t66 t67 t68 t69 t70 t71 t72 t73 t74 t75 t76 t77 t78 t79 t80 t81 t82 t83 t84 t85 t86 t87 t88 t89 t90 t91 t92 t93 t94 t95 t96 t97 t98 t99 t100 t101 t102 t103 t104 t105 t106 t107 : Value) (q90 q97 q105 : Nat) : Prop where
  low : Below w0.heap.size w0 w
  km : Blk w bm #[a0, a1, a2, a3, .bool false, .int .i64 2, a6, a7] 26
  kt : Blk w bt #[rA, rB] 24
  h0 : L 0 = true → t54 = .int .i64 0
  h1 : L 1 = true → t55 = .bool true
  h2 : L 2 = true → t56 = .bool true
  h3 : L 3 = true → t57 = .int .i64 0
  h4 : L 4 = true → t58 = .bool true
  h5 : L 5 = true → t59 = .bool true
  h6 : L 6 = true → t60 = .bool true
  h7 : L 7 = true → t61 = .int .i64 0
  h8 : L 8 = true → t62 = .bool true
  h9 : L 9 = true → t63 = .bool true
  h10 : L 10 = true → t64 = .bool true
  h11 : L 11 = true → t65 = .int .i64 0
  h12 : L 12 = true → t66 = .bool true
  h13 : L 13 = true → t67 = .bool true
  h14 : L 14 = true → t68 = .bool true
  h15 : L 15 = true → t69 = .int .i64 221
  h16 : L 16 = true → t70 = .bool true
  h17 : L 17 = true → t71 = .bool true
  h18 : L 18 = true → t72 = .bool true
  h19 : L 19 = true → t73 = .int .i64 2
  h20 : L 20 = true → t74 = .bool true
  h21 : L 21 = true → t75 = .bool true
  h22 : L 22 = true → t76 = .bool true
  h23 : L 23 = true → t77 = .int .i64 1
  h24 : L 24 = true → t78 = .bool true
  h25 : L 25 = true → t79 = .bool true
  h26 : L 26 = true → t80 = .bool true
  h27 : L 27 = true → t81 = .agg #[a0, a1, a2, a3, .bool false, .int .i64 2, a6, a7]
  h28 : L 28 = true → t82 = .int .i64 1
  h29 : L 29 = true → t83 = .bool true
  h30 : L 30 = true → t84 = .bool true
  h31 : L 31 = true → t85 = .bool true
  h32 : L 32 = true → t86 = .pointer (some ⟨bt, 0, none⟩)
  h33 : L 33 = true → t87 = rA
  h34 : L 34 = true → t88 = PV 2 2
  h35 : L 35 = true → t89 = PV 3 3
  h36 : L 36 = true → t90 = .slice (some ⟨q90, 0, none⟩) 2 2 ∧ SegP w (.slice (some ⟨q90, 0, none⟩) 2 2) [(2, 2), (3, 3)]
  h37 : L 37 = true → t91 = .bool true
  h38 : L 38 = true → t92 = .bool true
  h39 : L 39 = true → t93 = .bool true
  h40 : L 40 = true → t94 = .pointer (some ⟨bt, 1, none⟩)
  h41 : L 41 = true → t95 = rB
  h42 : L 42 = true → t96 = PV 1 1
  h43 : L 43 = true → t97 = .slice (some ⟨q97, 0, none⟩) 1 1 ∧ SegP w (.slice (some ⟨q97, 0, none⟩) 1 1) [(1, 1)]
  h44 : L 44 = true → t98 = .bool true
  h45 : L 45 = true → t99 = .bool true
  h46 : L 46 = true → t100 = .bool true
  h47 : L 47 = true → t101 = .pointer (some ⟨bm, 6, none⟩)
  h48 : L 48 = true → t102 = .pointer (some ⟨bm, 6, none⟩)
  h49 : L 49 = true → t103 = a6
  h50 : L 50 = true → t104 = PV 2 2
  h51 : L 51 = true → t105 = .slice (some ⟨q105, 0, none⟩) 1 1 ∧ SegP w (.slice (some ⟨q105, 0, none⟩) 1 1) [(2, 2)]
  h52 : L 52 = true → t106 = .bool true
  h53 : L 53 = true → t107 = .bool true
  h54 : L 54 = true → t0 = .bool true
def WKV (w0 : World) (bm bt : Nat) (t00 a0 a1 a2 a3 a6 a7 rA rB s1 s2 s3 s8 s13 s15 s16 s17 s18 s19 s20 s21 s22 s23 s24 s25 s26 s27 s28 s29 s30 s31 s32 s33 s34 s35 s36 s37 s38 s39 s40 s41 s42 s43 s44 s45 s46 s47 s48 s49 s50 s51 s52 s53 : Value) (L : Nat → Bool) (a : Act) (X : World) : Prop :=
  ∃ t0 t54 t55 t56 t57 t58 t59 t60 t61 t62 t63 t64 t65 t66 t67 t68 t69 t70 t71 t72 t73 t74 t75 t76 t77 t78 t79 t80 t81 t82 t83 t84 t85 t86 t87 t88 t89 t90 t91 t92 t93 t94 t95 t96 t97 t98 t99 t100 t101 t102 t103 t104 t105 t106 t107 q90 q97 q105, a = { tmps := #[t0, s1, s2, s3, .int .i64 0, .pointer (some ⟨bm, 0, none⟩), .int .i64 2, .int .i64 0, s8, .int .i64 1, .int .i64 0, .pointer (some ⟨bt, 0, none⟩), .int .i64 0, s13, .int .i64 221, s15, s16, s17, s18, s19, s20, s21, s22, s23, s24, s25, s26, s27, s28, s29, s30, s31, s32, s33, s34, s35, s36, s37, s38, s39, s40, s41, s42, s43, s44, s45, s46, s47, s48, s49, s50, s51, s52, s53, t54, t55, t56, t57, t58, t59, t60, t61, t62, t63, t64, t65, t66, t67, t68, t69, t70, t71, t72, t73, t74, t75, t76, t77, t78, t79, t80, t81, t82, t83, t84, t85, t86, t87, t88, t89, t90, t91, t92, t93, t94, t95, t96, t97, t98, t99, t100, t101, t102, t103, t104, t105, t106, t107], defers := [] } ∧ WKI w0 bm bt t00 a0 a1 a2 a3 a6 a7 rA rB s1 s2 s3 s8 s13 s15 s16 s17 s18 s19 s20 s21 s22 s23 s24 s25 s26 s27 s28 s29 s30 s31 s32 s33 s34 s35 s36 s37 s38 s39 s40 s41 s42 s43 s44 s45 s46 s47 s48 s49 s50 s51 s52 s53 L X t0 t54 t55 t56 t57 t58 t59 t60 t61 t62 t63 t64 t65 t66 t67 t68 t69 t70 t71 t72 t73 t74 t75 t76 t77 t78 t79 t80 t81 t82 t83 t84 t85 t86 t87 t88 t89 t90 t91 t92 t93 t94 t95 t96 t97 t98 t99 t100 t101 t102 t103 t104 t105 t106 t107 q90 q97 q105
set_option maxRecDepth 100000 in
set_option maxHeartbeats 32000000 in
theorem WK_region {Q : Exit → Act → World → Prop} (w0 : World) (bm bt : Nat) (t00 a0 a1 a2 a3 a6 a7 rA rB s1 s2 s3 s8 s13 s15 s16 s17 s18 s19 s20 s21 s22 s23 s24 s25 s26 s27 s28 s29 s30 s31 s32 s33 s34 s35 s36 s37 s38 s39 s40 s41 s42 s43 s44 s45 s46 s47 s48 s49 s50 s51 s52 s53 : Value) (W : World) (a : Act) (ha : a = { tmps := #[t00, s1, s2, s3, .int .i64 0, .pointer (some ⟨bm, 0, none⟩), .int .i64 2, .int .i64 0, s8, .int .i64 1, .int .i64 0, .pointer (some ⟨bt, 0, none⟩), .int .i64 0, s13, .int .i64 221, s15, s16, s17, s18, s19, s20, s21, s22, s23, s24, s25, s26, s27, s28, s29, s30, s31, s32, s33, s34, s35, s36, s37, s38, s39, s40, s41, s42, s43, s44, s45, s46, s47, s48, s49, s50, s51, s52, s53, undef, undef, undef, undef, undef, undef, undef, undef, undef, undef, undef, undef, undef, undef, undef, undef, undef, undef, undef, undef, undef, undef, undef, undef, undef, undef, undef, undef, undef, undef, undef, undef, undef, undef, undef, undef, undef, undef, undef, undef, undef, undef, undef, undef, undef, undef, undef, undef, undef, undef, undef, undef, undef, undef], defers := [] }) (hlow : Below w0.heap.size w0 W) (hkm : Blk W bm #[a0, a1, a2, a3, .bool false, .int .i64 2, a6, a7] 26) (hkt : Blk W bt #[rA, rB] 24) (hsl : ∃ o1 n1 c1 o2 n2 c2 o3 n3 c3, rA = .slice o1 n1 c1 ∧ rB = .slice o2 n2 c2 ∧ a6 = .slice o3 n3 c3)
    (HLF : Hid (∀ W, Below w0.heap.size w0 W → Calls Try.prog 20 #[.agg #[a0, a1, a2, a3, .bool false, .int .i64 2, a6, a7]] W fun e w' => e = .returned (.int .i64 1) ∧ Below W.heap.size W w'))
    (HSM : Hid (∀ (n : Int) W, Calls Try.prog 46 #[.int .u64 n] W fun e w' => e = .returned (PV n n) ∧ Gr W w'))
    (HEQ : Hid (∀ (v1 v2 : Value) (l : List Pr) (X : World), SegP X v1 l → SegP X v2 l → Calls Try.prog 28 #[v1, v2] X fun e w' => e = .returned (.bool true) ∧ Gr X w'))
    (HrA : Hid (∀ W, Below w0.heap.size w0 W → SegP W rA [(2, 2), (3, 3)])) (HrB : Hid (∀ W, Below w0.heap.size w0 W → SegP W rB [(1, 1)])) (HrC : Hid (∀ W, Below w0.heap.size w0 W → SegP W a6 [(2, 2)]))
    (hQ : ∀ t0 t54 t55 t56 t57 t58 t59 t60 t61 t62 t63 t64 t65 t66 t67 t68 t69 t70 t71 t72 t73 t74 t75 t76 t77 t78 t79 t80 t81 t82 t83 t84 t85 t86 t87 t88 t89 t90 t91 t92 t93 t94 t95 t96 t97 t98 t99 t100 t101 t102 t103 t104 t105 t106 t107 X, t0 = .bool true → Below w0.heap.size w0 X → Q .normal { tmps := #[t0, s1, s2, s3, .int .i64 0, .pointer (some ⟨bm, 0, none⟩), .int .i64 2, .int .i64 0, s8, .int .i64 1, .int .i64 0, .pointer (some ⟨bt, 0, none⟩), .int .i64 0, s13, .int .i64 221, s15, s16, s17, s18, s19, s20, s21, s22, s23, s24, s25, s26, s27, s28, s29, s30, s31, s32, s33, s34, s35, s36, s37, s38, s39, s40, s41, s42, s43, s44, s45, s46, s47, s48, s49, s50, s51, s52, s53, t54, t55, t56, t57, t58, t59, t60, t61, t62, t63, t64, t65, t66, t67, t68, t69, t70, t71, t72, t73, t74, t75, t76, t77, t78, t79, t80, t81, t82, t83, t84, t85, t86, t87, t88, t89, t90, t91, t92, t93, t94, t95, t96, t97, t98, t99, t100, t101, t102, t103, t104, t105, t106, t107], defers := [] } X) :
    (Code.region 8 #[{ dst := some 54, op := Op.move (Operand.tmp 4), type := 30, pos := "law.go:25", after := #[], guard := none }, { dst := some 55, op := Op.binOp BinOp.eql 30 (Operand.tmp 54) (Operand.const (Value.int IntKind.i64 0)) 30, type := 4, pos := "law.go:25", after := #[{ on := 0, ground := Ground.data }], guard := none }, { dst := some 56, op := Op.move (Operand.tmp 55), type := 4, pos := "law.go:25", after := #[{ on := 1, ground := Ground.data }], guard := none }, { dst := some 57, op := Op.move (Operand.tmp 7), type := 30, pos := "law.go:25", after := #[{ on := 2, ground := Ground.guard }], guard := some (2, true) }, { dst := some 58, op := Op.binOp BinOp.eql 30 (Operand.tmp 57) (Operand.const (Value.int IntKind.i64 0)) 30, type := 4, pos := "law.go:25", after := #[{ on := 3, ground := Ground.data }, { on := 2, ground := Ground.guard }], guard := some (2, true) }, { dst := some 59, op := Op.pick (Operand.tmp 56) (Operand.tmp 58) (Operand.const (Value.bool false)), type := 4, pos := "law.go:25", after := #[{ on := 2, ground := Ground.data }, { on := 4, ground := Ground.data }], guard := none }, { dst := some 60, op := Op.move (Operand.tmp 59), type := 4, pos := "law.go:25", after := #[{ on := 5, ground := Ground.data }, { on := 2, ground := Ground.chain }], guard := none }, { dst := some 61, op := Op.move (Operand.tmp 10), type := 30, pos := "law.go:25", after := #[{ on := 6, ground := Ground.guard }], guard := some (6, true) }, { dst := some 62, op := Op.binOp BinOp.eql 30 (Operand.tmp 61) (Operand.const (Value.int IntKind.i64 0)) 30, type := 4, pos := "law.go:25", after := #[{ on := 7, ground := Ground.data }, { on := 6, ground := Ground.guard }], guard := some (6, true) }, { dst := some 63, op := Op.pick (Operand.tmp 60) (Operand.tmp 62) (Operand.const (Value.bool false)), type := 4, pos := "law.go:25", after := #[{ on := 6, ground := Ground.data }, { on := 8, ground := Ground.data }], guard := none }, { dst := some 64, op := Op.move (Operand.tmp 63), type := 4, pos := "law.go:25", after := #[{ on := 9, ground := Ground.data }, { on := 6, ground := Ground.chain }], guard := none }, { dst := some 65, op := Op.move (Operand.tmp 12), type := 30, pos := "law.go:25", after := #[{ on := 10, ground := Ground.guard }], guard := some (10, true) }, { dst := some 66, op := Op.binOp BinOp.eql 30 (Operand.tmp 65) (Operand.const (Value.int IntKind.i64 0)) 30, type := 4, pos := "law.go:25", after := #[{ on := 11, ground := Ground.data }, { on := 10, ground := Ground.guard }], guard := some (10, true) }, { dst := some 67, op := Op.pick (Operand.tmp 64) (Operand.tmp 66) (Operand.const (Value.bool false)), type := 4, pos := "law.go:25", after := #[{ on := 10, ground := Ground.data }, { on := 12, ground := Ground.data }], guard := none }, { dst := some 68, op := Op.move (Operand.tmp 67), type := 4, pos := "law.go:25", after := #[{ on := 13, ground := Ground.data }, { on := 10, ground := Ground.chain }], guard := none }, { dst := some 69, op := Op.move (Operand.tmp 14), type := 30, pos := "law.go:25", after := #[{ on := 14, ground := Ground.guard }], guard := some (14, true) }, { dst := some 70, op := Op.binOp BinOp.eql 30 (Operand.tmp 69) (Operand.const (Value.int IntKind.i64 221)) 30, type := 4, pos := "law.go:25", after := #[{ on := 15, ground := Ground.data }, { on := 14, ground := Ground.guard }], guard := some (14, true) }, { dst := some 71, op := Op.pick (Operand.tmp 68) (Operand.tmp 70) (Operand.const (Value.bool false)), type := 4, pos := "law.go:25", after := #[{ on := 14, ground := Ground.data }, { on := 16, ground := Ground.data }], guard := none }, { dst := some 72, op := Op.move (Operand.tmp 71), type := 4, pos := "law.go:25", after := #[{ on := 17, ground := Ground.data }, { on := 14, ground := Ground.chain }], guard := none }, { dst := some 73, op := Op.move (Operand.tmp 6), type := 3, pos := "law.go:25", after := #[{ on := 18, ground := Ground.guard }], guard := some (18, true) }, { dst := some 74, op := Op.binOp BinOp.eql 3 (Operand.tmp 73) (Operand.const (Value.int IntKind.i64 2)) 3, type := 4, pos := "law.go:25", after := #[{ on := 19, ground := Ground.data }, { on := 18, ground := Ground.guard }], guard := some (18, true) }, { dst := some 75, op := Op.pick (Operand.tmp 72) (Operand.tmp 74) (Operand.const (Value.bool false)), type := 4, pos := "law.go:25", after := #[{ on := 18, ground := Ground.data }, { on := 20, ground := Ground.data }], guard := none }, { dst := some 76, op := Op.move (Operand.tmp 75), type := 4, pos := "law.go:25", after := #[{ on := 21, ground := Ground.data }, { on := 18, ground := Ground.chain }], guard := none }, { dst := some 77, op := Op.move (Operand.tmp 9), type := 3, pos := "law.go:25", after := #[{ on := 22, ground := Ground.guard }], guard := some (22, true) }, { dst := some 78, op := Op.binOp BinOp.eql 3 (Operand.tmp 77) (Operand.const (Value.int IntKind.i64 1)) 3, type := 4, pos := "law.go:25", after := #[{ on := 23, ground := Ground.data }, { on := 22, ground := Ground.guard }], guard := some (22, true) }, { dst := some 79, op := Op.pick (Operand.tmp 76) (Operand.tmp 78) (Operand.const (Value.bool false)), type := 4, pos := "law.go:25", after := #[{ on := 22, ground := Ground.data }, { on := 24, ground := Ground.data }], guard := none }, { dst := some 80, op := Op.move (Operand.tmp 79), type := 4, pos := "law.go:25", after := #[{ on := 25, ground := Ground.data }, { on := 22, ground := Ground.chain }], guard := none }, { dst := some 81, op := Op.load 26 (Operand.tmp 5), type := 26, pos := "law.go:25", after := #[{ on := 26, ground := Ground.guard }], guard := some (26, true) }, { dst := some 82, op := Op.call { callee := Callee.value (Operand.func 20), args := #[Operand.tmp 81], argTypes := #[26] }, type := 3, pos := "law.go:25", after := #[{ on := 27, ground := Ground.data }, { on := 26, ground := Ground.chain }, { on := 26, ground := Ground.guard }], guard := some (26, true) }, { dst := some 83, op := Op.binOp BinOp.eql 3 (Operand.tmp 82) (Operand.const (Value.int IntKind.i64 1)) 3, type := 4, pos := "law.go:25", after := #[{ on := 28, ground := Ground.data }, { on := 26, ground := Ground.guard }], guard := some (26, true) }, { dst := some 84, op := Op.pick (Operand.tmp 80) (Operand.tmp 83) (Operand.const (Value.bool false)), type := 4, pos := "law.go:25", after := #[{ on := 26, ground := Ground.data }, { on := 29, ground := Ground.data }], guard := none }, { dst := some 85, op := Op.move (Operand.tmp 84), type := 4, pos := "law.go:25", after := #[{ on := 30, ground := Ground.data }, { on := 28, ground := Ground.chain }], guard := none }, { dst := some 86, op := Op.fieldAddr 24 (Operand.tmp 11) 0, type := 0, pos := "law.go:25", after := #[{ on := 31, ground := Ground.guard }], guard := some (31, true) }, { dst := some 87, op := Op.load 22 (Operand.tmp 86), type := 22, pos := "law.go:25", after := #[{ on := 32, ground := Ground.data }, { on := 31, ground := Ground.guard }], guard := some (31, true) }, { dst := some 88, op := Op.call { callee := Callee.value (Operand.func 46), args := #[Operand.const (Value.int IntKind.u64 2)], argTypes := #[51] }, type := 53, pos := "law.go:25", after := #[{ on := 31, ground := Ground.chain }, { on := 31, ground := Ground.guard }], guard := some (31, true) }, { dst := some 89, op := Op.call { callee := Callee.value (Operand.func 46), args := #[Operand.const (Value.int IntKind.u64 3)], argTypes := #[51] }, type := 53, pos := "law.go:25", after := #[{ on := 34, ground := Ground.chain }, { on := 31, ground := Ground.guard }], guard := some (31, true) }, { dst := some 90, op := Op.buildSlice 22 2 #[(0, Operand.tmp 88), (1, Operand.tmp 89)], type := 22, pos := "law.go:25", after := #[{ on := 34, ground := Ground.data }, { on := 35, ground := Ground.data }, { on := 31, ground := Ground.guard }], guard := some (31, true) }, { dst := some 91, op := Op.call { callee := Callee.value (Operand.func 28), args := #[Operand.tmp 87, Operand.tmp 90], argTypes := #[22, 22] }, type := 4, pos := "law.go:25", after := #[{ on := 33, ground := Ground.data }, { on := 36, ground := Ground.data }, { on := 35, ground := Ground.chain }, { on := 31, ground := Ground.guard }], guard := some (31, true) }, { dst := some 92, op := Op.pick (Operand.tmp 85) (Operand.tmp 91) (Operand.const (Value.bool false)), type := 4, pos := "law.go:25", after := #[{ on := 31, ground := Ground.data }, { on := 37, ground := Ground.data }], guard := none }, { dst := some 93, op := Op.move (Operand.tmp 92), type := 4, pos := "law.go:25", after := #[{ on := 38, ground := Ground.data }, { on := 37, ground := Ground.chain }], guard := none }, { dst := some 94, op := Op.fieldAddr 24 (Operand.tmp 11) 1, type := 0, pos := "law.go:25", after := #[{ on := 39, ground := Ground.guard }], guard := some (39, true) }, { dst := some 95, op := Op.load 22 (Operand.tmp 94), type := 22, pos := "law.go:25", after := #[{ on := 40, ground := Ground.data }, { on := 39, ground := Ground.guard }], guard := some (39, true) }, { dst := some 96, op := Op.call { callee := Callee.value (Operand.func 46), args := #[Operand.const (Value.int IntKind.u64 1)], argTypes := #[51] }, type := 53, pos := "law.go:25", after := #[{ on := 39, ground := Ground.chain }, { on := 39, ground := Ground.guard }], guard := some (39, true) }, { dst := some 97, op := Op.buildSlice 22 1 #[(0, Operand.tmp 96)], type := 22, pos := "law.go:25", after := #[{ on := 42, ground := Ground.data }, { on := 39, ground := Ground.guard }], guard := some (39, true) }, { dst := some 98, op := Op.call { callee := Callee.value (Operand.func 28), args := #[Operand.tmp 95, Operand.tmp 97], argTypes := #[22, 22] }, type := 4, pos := "law.go:25", after := #[{ on := 41, ground := Ground.data }, { on := 43, ground := Ground.data }, { on := 42, ground := Ground.chain }, { on := 39, ground := Ground.guard }], guard := some (39, true) }, { dst := some 99, op := Op.pick (Operand.tmp 93) (Operand.tmp 98) (Operand.const (Value.bool false)), type := 4, pos := "law.go:25", after := #[{ on := 39, ground := Ground.data }, { on := 44, ground := Ground.data }], guard := none }, { dst := some 100, op := Op.move (Operand.tmp 99), type := 4, pos := "law.go:25", after := #[{ on := 45, ground := Ground.data }, { on := 44, ground := Ground.chain }], guard := none }, { dst := some 101, op := Op.fieldAddr 26 (Operand.tmp 5) 4, type := 0, pos := "law.go:25", after := #[{ on := 46, ground := Ground.guard }], guard := some (46, true) }, { dst := some 102, op := Op.fieldAddr 24 (Operand.tmp 101) 0, type := 0, pos := "law.go:25", after := #[{ on := 47, ground := Ground.data }, { on := 46, ground := Ground.guard }], guard := some (46, true) }, { dst := some 103, op := Op.load 22 (Operand.tmp 102), type := 22, pos := "law.go:25", after := #[{ on := 48, ground := Ground.data }, { on := 46, ground := Ground.guard }], guard := some (46, true) }, { dst := some 104, op := Op.call { callee := Callee.value (Operand.func 46), args := #[Operand.const (Value.int IntKind.u64 2)], argTypes := #[51] }, type := 53, pos := "law.go:25", after := #[{ on := 46, ground := Ground.chain }, { on := 46, ground := Ground.guard }], guard := some (46, true) }, { dst := some 105, op := Op.buildSlice 22 1 #[(0, Operand.tmp 104)], type := 22, pos := "law.go:25", after := #[{ on := 50, ground := Ground.data }, { on := 46, ground := Ground.guard }], guard := some (46, true) }, { dst := some 106, op := Op.call { callee := Callee.value (Operand.func 28), args := #[Operand.tmp 103, Operand.tmp 105], argTypes := #[22, 22] }, type := 4, pos := "law.go:25", after := #[{ on := 49, ground := Ground.data }, { on := 51, ground := Ground.data }, { on := 50, ground := Ground.chain }, { on := 46, ground := Ground.guard }], guard := some (46, true) }, { dst := some 107, op := Op.pick (Operand.tmp 100) (Operand.tmp 106) (Operand.const (Value.bool false)), type := 4, pos := "law.go:25", after := #[{ on := 46, ground := Ground.data }, { on := 52, ground := Ground.data }], guard := none }, { dst := some 0, op := Op.assign (Operand.tmp 107), type := 4, pos := "law.go:25", after := #[{ on := 53, ground := Ground.data }, { on := 52, ground := Ground.chain }, { on := 0, ground := Ground.phase }, { on := 1, ground := Ground.phase }, { on := 2, ground := Ground.phase }, { on := 3, ground := Ground.phase }, { on := 4, ground := Ground.phase }, { on := 5, ground := Ground.phase }, { on := 6, ground := Ground.phase }, { on := 7, ground := Ground.phase }, { on := 8, ground := Ground.phase }, { on := 9, ground := Ground.phase }, { on := 10, ground := Ground.phase }, { on := 11, ground := Ground.phase }, { on := 12, ground := Ground.phase }, { on := 13, ground := Ground.phase }, { on := 14, ground := Ground.phase }, { on := 15, ground := Ground.phase }, { on := 16, ground := Ground.phase }, { on := 17, ground := Ground.phase }, { on := 18, ground := Ground.phase }, { on := 19, ground := Ground.phase }, { on := 20, ground := Ground.phase }, { on := 21, ground := Ground.phase }, { on := 22, ground := Ground.phase }, { on := 23, ground := Ground.phase }, { on := 24, ground := Ground.phase }, { on := 25, ground := Ground.phase }, { on := 26, ground := Ground.phase }, { on := 27, ground := Ground.phase }, { on := 28, ground := Ground.phase }, { on := 29, ground := Ground.phase }, { on := 30, ground := Ground.phase }, { on := 31, ground := Ground.phase }, { on := 32, ground := Ground.phase }, { on := 33, ground := Ground.phase }, { on := 34, ground := Ground.phase }, { on := 35, ground := Ground.phase }, { on := 36, ground := Ground.phase }, { on := 37, ground := Ground.phase }, { on := 38, ground := Ground.phase }, { on := 39, ground := Ground.phase }, { on := 40, ground := Ground.phase }, { on := 41, ground := Ground.phase }, { on := 42, ground := Ground.phase }, { on := 43, ground := Ground.phase }, { on := 44, ground := Ground.phase }, { on := 45, ground := Ground.phase }, { on := 46, ground := Ground.phase }, { on := 47, ground := Ground.phase }, { on := 48, ground := Ground.phase }, { on := 49, ground := Ground.phase }, { on := 50, ground := Ground.phase }, { on := 51, ground := Ground.phase }, { on := 52, ground := Ground.phase }, { on := 53, ground := Ground.phase }], guard := none }] true).wp Try.prog Q a W := by
  have hmix := mixed
  obtain ⟨o1, n1, c1, o2, n2, c2, o3, n3, c3, rfl, rfl, rfl⟩ := hsl
  refine wp_region_inv hmix (Inv := WKV w0 bm bt t00 a0 a1 a2 a3 (.slice o3 n3 c3) a7 (.slice o1 n1 c1) (.slice o2 n2 c2) s1 s2 s3 s8 s13 s15 s16 s17 s18 s19 s20 s21 s22 s23 s24 s25 s26 s27 s28 s29 s30 s31 s32 s33 s34 s35 s36 s37 s38 s39 s40 s41 s42 s43 s44 s45 s46 s47 s48 s49 s50 s51 s52 s53) (by kernel_rfl) ?h0 ?hstep ?hdone
  case h0 =>
    subst ha
    exact ⟨t00, undef, undef, undef, undef, undef, undef, undef, undef, undef, undef, undef, undef, undef, undef, undef, undef, undef, undef, undef, undef, undef, undef, undef, undef, undef, undef, undef, undef, undef, undef, undef, undef, undef, undef, undef, undef, undef, undef, undef, undef, undef, undef, undef, undef, undef, undef, undef, undef, undef, undef, undef, undef, undef, undef, 0, 0, 0, rfl, ⟨hlow.drew, hkm.drew, hkt.drew, nofun, nofun, nofun, nofun, nofun, nofun, nofun, nofun, nofun, nofun, nofun, nofun, nofun, nofun, nofun, nofun, nofun, nofun, nofun, nofun, nofun, nofun, nofun, nofun, nofun, nofun, nofun, nofun, nofun, nofun, nofun, nofun, nofun, nofun, nofun, nofun, nofun, nofun, nofun, nofun, nofun, nofun, nofun, nofun, nofun, nofun, nofun, nofun, nofun, nofun, nofun, nofun, nofun, nofun, nofun⟩⟩
  case hdone =>
    rintro L a X ⟨t0, t54, t55, t56, t57, t58, t59, t60, t61, t62, t63, t64, t65, t66, t67, t68, t69, t70, t71, t72, t73, t74, t75, t76, t77, t78, t79, t80, t81, t82, t83, t84, t85, t86, t87, t88, t89, t90, t91, t92, t93, t94, t95, t96, t97, t98, t99, t100, t101, t102, t103, t104, t105, t106, t107, q90, q97, q105, rfl, h⟩ hall
    exact hQ t0 t54 t55 t56 t57 t58 t59 t60 t61 t62 t63 t64 t65 t66 t67 t68 t69 t70 t71 t72 t73 t74 t75 t76 t77 t78 t79 t80 t81 t82 t83 t84 t85 t86 t87 t88 t89 t90 t91 t92 t93 t94 t95 t96 t97 t98 t99 t100 t101 t102 t103 t104 t105 t106 t107 X (h.h54 (hall 54 (by decide))) h.low
  case hstep =>
    clear hQ ha
    rintro L a X i op ⟨t0, t54, t55, t56, t57, t58, t59, t60, t61, t62, t63, t64, t65, t66, t67, t68, t69, t70, t71, t72, t73, t74, t75, t76, t77, t78, t79, t80, t81, t82, t83, t84, t85, t86, t87, t88, t89, t90, t91, t92, t93, t94, t95, t96, t97, t98, t99, t100, t101, t102, t103, t104, t105, t106, t107, q90, q97, q105, rfl, h⟩ hL ho hp
    have hi : i < 55 := (Array.getElem?_eq_some_iff.1 ho).1
    match i, hi, hL, ho, hp with
    | 0, _, hL, ho, hp =>
      simp only [List.getElem?_toArray, List.getElem?_cons_zero, Option.some.injEq] at ho
      subst ho
      rw [if_pos (by rfl)]
      go_simp
      exact ⟨_, _, _, _, _, _, _, _, _, _, _, _, _, _, _, _, _, _, _, _, _, _, _, _, _, _, _, _, _, _, _, _, _, _, _, _, _, _, _, _, _, _, _, _, _, _, _, _, _, _, _, _, _, _, _, q90, q97, q105, rfl, ⟨h.low, h.km, h.kt, fun _ => rfl, h.h1, h.h2, h.h3, h.h4, h.h5, h.h6, h.h7, h.h8, h.h9, h.h10, h.h11, h.h12, h.h13, h.h14, h.h15, h.h16, h.h17, h.h18, h.h19, h.h20, h.h21, h.h22, h.h23, h.h24, h.h25, h.h26, h.h27, h.h28, h.h29, h.h30, h.h31, h.h32, h.h33, h.h34, h.h35, h.h36, h.h37, h.h38, h.h39, h.h40, h.h41, h.h42, h.h43, h.h44, h.h45, h.h46, h.h47, h.h48, h.h49, h.h50, h.h51, h.h52, h.h53, h.h54⟩⟩
    | 1, _, hL, ho, hp =>
      simp only [List.getElem?_toArray, List.getElem?_cons_zero, List.getElem?_cons_succ, Option.some.injEq] at ho
      subst ho
      have p0 : L 0 = true := hp ⟨0, .data⟩ (by simp) rfl
      obtain rfl := h.h0 p0
      rw [if_pos (by rfl)]
      go_simp
      exact ⟨_, _, _, _, _, _, _, _, _, _, _, _, _, _, _, _, _, _, _, _, _, _, _, _, _, _, _, _, _, _, _, _, _, _, _, _, _, _, _, _, _, _, _, _, _, _, _, _, _, _, _, _, _, _, _, q90, q97, q105, rfl, ⟨h.low, h.km, h.kt, h.h0, fun _ => rfl, h.h2, h.h3, h.h4, h.h5, h.h6, h.h7, h.h8, h.h9, h.h10, h.h11, h.h12, h.h13, h.h14, h.h15, h.h16, h.h17, h.h18, h.h19, h.h20, h.h21, h.h22, h.h23, h.h24, h.h25, h.h26, h.h27, h.h28, h.h29, h.h30, h.h31, h.h32, h.h33, h.h34, h.h35, h.h36, h.h37, h.h38, h.h39, h.h40, h.h41, h.h42, h.h43, h.h44, h.h45, h.h46, h.h47, h.h48, h.h49, h.h50, h.h51, h.h52, h.h53, h.h54⟩⟩
    | 2, _, hL, ho, hp =>
      simp only [List.getElem?_toArray, List.getElem?_cons_zero, List.getElem?_cons_succ, Option.some.injEq] at ho
      subst ho
      have p1 : L 1 = true := hp ⟨1, .data⟩ (by simp) rfl
      obtain rfl := h.h1 p1
      rw [if_pos (by rfl)]
      go_simp
      exact ⟨_, _, _, _, _, _, _, _, _, _, _, _, _, _, _, _, _, _, _, _, _, _, _, _, _, _, _, _, _, _, _, _, _, _, _, _, _, _, _, _, _, _, _, _, _, _, _, _, _, _, _, _, _, _, _, q90, q97, q105, rfl, ⟨h.low, h.km, h.kt, h.h0, h.h1, fun _ => rfl, h.h3, h.h4, h.h5, h.h6, h.h7, h.h8, h.h9, h.h10, h.h11, h.h12, h.h13, h.h14, h.h15, h.h16, h.h17, h.h18, h.h19, h.h20, h.h21, h.h22, h.h23, h.h24, h.h25, h.h26, h.h27, h.h28, h.h29, h.h30, h.h31, h.h32, h.h33, h.h34, h.h35, h.h36, h.h37, h.h38, h.h39, h.h40, h.h41, h.h42, h.h43, h.h44, h.h45, h.h46, h.h47, h.h48, h.h49, h.h50, h.h51, h.h52, h.h53, h.h54⟩⟩
    | 3, _, hL, ho, hp =>
      simp only [List.getElem?_toArray, List.getElem?_cons_zero, List.getElem?_cons_succ, Option.some.injEq] at ho
      subst ho
      have p2 : L 2 = true := hp ⟨2, .guard⟩ (by simp) rfl
      obtain rfl := h.h2 p2
      rw [if_pos (by rfl)]
      go_simp
      exact ⟨_, _, _, _, _, _, _, _, _, _, _, _, _, _, _, _, _, _, _, _, _, _, _, _, _, _, _, _, _, _, _, _, _, _, _, _, _, _, _, _, _, _, _, _, _, _, _, _, _, _, _, _, _, _, _, q90, q97, q105, rfl, ⟨h.low, h.km, h.kt, h.h0, h.h1, h.h2, fun _ => rfl, h.h4, h.h5, h.h6, h.h7, h.h8, h.h9, h.h10, h.h11, h.h12, h.h13, h.h14, h.h15, h.h16, h.h17, h.h18, h.h19, h.h20, h.h21, h.h22, h.h23, h.h24, h.h25, h.h26, h.h27, h.h28, h.h29, h.h30, h.h31, h.h32, h.h33, h.h34, h.h35, h.h36, h.h37, h.h38, h.h39, h.h40, h.h41, h.h42, h.h43, h.h44, h.h45, h.h46, h.h47, h.h48, h.h49, h.h50, h.h51, h.h52, h.h53, h.h54⟩⟩
    | 4, _, hL, ho, hp =>
      simp only [List.getElem?_toArray, List.getElem?_cons_zero, List.getElem?_cons_succ, Option.some.injEq] at ho
      subst ho
      have p2 : L 2 = true := hp ⟨2, .guard⟩ (by simp) rfl
      obtain rfl := h.h2 p2
      have p3 : L 3 = true := hp ⟨3, .data⟩ (by simp) rfl
      obtain rfl := h.h3 p3
      rw [if_pos (by rfl)]
      go_simp
      exact ⟨_, _, _, _, _, _, _, _, _, _, _, _, _, _, _, _, _, _, _, _, _, _, _, _, _, _, _, _, _, _, _, _, _, _, _, _, _, _, _, _, _, _, _, _, _, _, _, _, _, _, _, _, _, _, _, q90, q97, q105, rfl, ⟨h.low, h.km, h.kt, h.h0, h.h1, h.h2, h.h3, fun _ => rfl, h.h5, h.h6, h.h7, h.h8, h.h9, h.h10, h.h11, h.h12, h.h13, h.h14, h.h15, h.h16, h.h17, h.h18, h.h19, h.h20, h.h21, h.h22, h.h23, h.h24, h.h25, h.h26, h.h27, h.h28, h.h29, h.h30, h.h31, h.h32, h.h33, h.h34, h.h35, h.h36, h.h37, h.h38, h.h39, h.h40, h.h41, h.h42, h.h43, h.h44, h.h45, h.h46, h.h47, h.h48, h.h49, h.h50, h.h51, h.h52, h.h53, h.h54⟩⟩
    | 5, _, hL, ho, hp =>
      simp only [List.getElem?_toArray, List.getElem?_cons_zero, List.getElem?_cons_succ, Option.some.injEq] at ho
      subst ho
      have p2 : L 2 = true := hp ⟨2, .data⟩ (by simp) rfl
      obtain rfl := h.h2 p2
      have p4 : L 4 = true := hp ⟨4, .data⟩ (by simp) rfl
      obtain rfl := h.h4 p4
      rw [if_pos (by rfl)]
      go_simp
      exact ⟨_, _, _, _, _, _, _, _, _, _, _, _, _, _, _, _, _, _, _, _, _, _, _, _, _, _, _, _, _, _, _, _, _, _, _, _, _, _, _, _, _, _, _, _, _, _, _, _, _, _, _, _, _, _, _, q90, q97, q105, rfl, ⟨h.low, h.km, h.kt, h.h0, h.h1, h.h2, h.h3, h.h4, fun _ => rfl, h.h6, h.h7, h.h8, h.h9, h.h10, h.h11, h.h12, h.h13, h.h14, h.h15, h.h16, h.h17, h.h18, h.h19, h.h20, h.h21, h.h22, h.h23, h.h24, h.h25, h.h26, h.h27, h.h28, h.h29, h.h30, h.h31, h.h32, h.h33, h.h34, h.h35, h.h36, h.h37, h.h38, h.h39, h.h40, h.h41, h.h42, h.h43, h.h44, h.h45, h.h46, h.h47, h.h48, h.h49, h.h50, h.h51, h.h52, h.h53, h.h54⟩⟩
    | 6, _, hL, ho, hp =>
      simp only [List.getElem?_toArray, List.getElem?_cons_zero, List.getElem?_cons_succ, Option.some.injEq] at ho
      subst ho
      have p5 : L 5 = true := hp ⟨5, .data⟩ (by simp) rfl
      obtain rfl := h.h5 p5
      rw [if_pos (by rfl)]
      go_simp
      exact ⟨_, _, _, _, _, _, _, _, _, _, _, _, _, _, _, _, _, _, _, _, _, _, _, _, _, _, _, _, _, _, _, _, _, _, _, _, _, _, _, _, _, _, _, _, _, _, _, _, _, _, _, _, _, _, _, q90, q97, q105, rfl, ⟨h.low, h.km, h.kt, h.h0, h.h1, h.h2, h.h3, h.h4, h.h5, fun _ => rfl, h.h7, h.h8, h.h9, h.h10, h.h11, h.h12, h.h13, h.h14, h.h15, h.h16, h.h17, h.h18, h.h19, h.h20, h.h21, h.h22, h.h23, h.h24, h.h25, h.h26, h.h27, h.h28, h.h29, h.h30, h.h31, h.h32, h.h33, h.h34, h.h35, h.h36, h.h37, h.h38, h.h39, h.h40, h.h41, h.h42, h.h43, h.h44, h.h45, h.h46, h.h47, h.h48, h.h49, h.h50, h.h51, h.h52, h.h53, h.h54⟩⟩
    | 7, _, hL, ho, hp =>
      simp only [List.getElem?_toArray, List.getElem?_cons_zero, List.getElem?_cons_succ, Option.some.injEq] at ho
      subst ho
      have p6 : L 6 = true := hp ⟨6, .guard⟩ (by simp) rfl
      obtain rfl := h.h6 p6
      rw [if_pos (by rfl)]
      go_simp
      exact ⟨_, _, _, _, _, _, _, _, _, _, _, _, _, _, _, _, _, _, _, _, _, _, _, _, _, _, _, _, _, _, _, _, _, _, _, _, _, _, _, _, _, _, _, _, _, _, _, _, _, _, _, _, _, _, _, q90, q97, q105, rfl, ⟨h.low, h.km, h.kt, h.h0, h.h1, h.h2, h.h3, h.h4, h.h5, h.h6, fun _ => rfl, h.h8, h.h9, h.h10, h.h11, h.h12, h.h13, h.h14, h.h15, h.h16, h.h17, h.h18, h.h19, h.h20, h.h21, h.h22, h.h23, h.h24, h.h25, h.h26, h.h27, h.h28, h.h29, h.h30, h.h31, h.h32, h.h33, h.h34, h.h35, h.h36, h.h37, h.h38, h.h39, h.h40, h.h41, h.h42, h.h43, h.h44, h.h45, h.h46, h.h47, h.h48, h.h49, h.h50, h.h51, h.h52, h.h53, h.h54⟩⟩
    | 8, _, hL, ho, hp =>
      simp only [List.getElem?_toArray, List.getElem?_cons_zero, List.getElem?_cons_succ, Option.some.injEq] at ho
      subst ho
      have p6 : L 6 = true := hp ⟨6, .guard⟩ (by simp) rfl
      obtain rfl := h.h6 p6
      have p7 : L 7 = true := hp ⟨7, .data⟩ (by simp) rfl
      obtain rfl := h.h7 p7
      rw [if_pos (by rfl)]
      go_simp
      exact ⟨_, _, _, _, _, _, _, _, _, _, _, _, _, _, _, _, _, _, _, _, _, _, _, _, _, _, _, _, _, _, _, _, _, _, _, _, _, _, _, _, _, _, _, _, _, _, _, _, _, _, _, _, _, _, _, q90, q97, q105, rfl, ⟨h.low, h.km, h.kt, h.h0, h.h1, h.h2, h.h3, h.h4, h.h5, h.h6, h.h7, fun _ => rfl, h.h9, h.h10, h.h11, h.h12, h.h13, h.h14, h.h15, h.h16, h.h17, h.h18, h.h19, h.h20, h.h21, h.h22, h.h23, h.h24, h.h25, h.h26, h.h27, h.h28, h.h29, h.h30, h.h31, h.h32, h.h33, h.h34, h.h35, h.h36, h.h37, h.h38, h.h39, h.h40, h.h41, h.h42, h.h43, h.h44, h.h45, h.h46, h.h47, h.h48, h.h49, h.h50, h.h51, h.h52, h.h53, h.h54⟩⟩
    | 9, _, hL, ho, hp =>
      simp only [List.getElem?_toArray, List.getElem?_cons_zero, List.getElem?_cons_succ, Option.some.injEq] at ho
      subst ho
      have p6 : L 6 = true := hp ⟨6, .data⟩ (by simp) rfl
      obtain rfl := h.h6 p6
      have p8 : L 8 = true := hp ⟨8, .data⟩ (by simp) rfl
      obtain rfl := h.h8 p8
      rw [if_pos (by rfl)]
      go_simp
      exact ⟨_, _, _, _, _, _, _, _, _, _, _, _, _, _, _, _, _, _, _, _, _, _, _, _, _, _, _, _, _, _, _, _, _, _, _, _, _, _, _, _, _, _, _, _, _, _, _, _, _, _, _, _, _, _, _, q90, q97, q105, rfl, ⟨h.low, h.km, h.kt, h.h0, h.h1, h.h2, h.h3, h.h4, h.h5, h.h6, h.h7, h.h8, fun _ => rfl, h.h10, h.h11, h.h12, h.h13, h.h14, h.h15, h.h16, h.h17, h.h18, h.h19, h.h20, h.h21, h.h22, h.h23, h.h24, h.h25, h.h26, h.h27, h.h28, h.h29, h.h30, h.h31, h.h32, h.h33, h.h34, h.h35, h.h36, h.h37, h.h38, h.h39, h.h40, h.h41, h.h42, h.h43, h.h44, h.h45, h.h46, h.h47, h.h48, h.h49, h.h50, h.h51, h.h52, h.h53, h.h54⟩⟩
    | 10, _, hL, ho, hp =>
      simp only [List.getElem?_toArray, List.getElem?_cons_zero, List.getElem?_cons_succ, Option.some.injEq] at ho
      subst ho
      have p9 : L 9 = true := hp ⟨9, .data⟩ (by simp) rfl
      obtain rfl := h.h9 p9
      rw [if_pos (by rfl)]
      go_simp
      exact ⟨_, _, _, _, _, _, _, _, _, _, _, _, _, _, _, _, _, _, _, _, _, _, _, _, _, _, _, _, _, _, _, _, _, _, _, _, _, _, _, _, _, _, _, _, _, _, _, _, _, _, _, _, _, _, _, q90, q97, q105, rfl, ⟨h.low, h.km, h.kt, h.h0, h.h1, h.h2, h.h3, h.h4, h.h5, h.h6, h.h7, h.h8, h.h9, fun _ => rfl, h.h11, h.h12, h.h13, h.h14, h.h15, h.h16, h.h17, h.h18, h.h19, h.h20, h.h21, h.h22, h.h23, h.h24, h.h25, h.h26, h.h27, h.h28, h.h29, h.h30, h.h31, h.h32, h.h33, h.h34, h.h35, h.h36, h.h37, h.h38, h.h39, h.h40, h.h41, h.h42, h.h43, h.h44, h.h45, h.h46, h.h47, h.h48, h.h49, h.h50, h.h51, h.h52, h.h53, h.h54⟩⟩
    | 11, _, hL, ho, hp =>
      simp only [List.getElem?_toArray, List.getElem?_cons_zero, List.getElem?_cons_succ, Option.some.injEq] at ho
      subst ho
      have p10 : L 10 = true := hp ⟨10, .guard⟩ (by simp) rfl
      obtain rfl := h.h10 p10
      rw [if_pos (by rfl)]
      go_simp
      exact ⟨_, _, _, _, _, _, _, _, _, _, _, _, _, _, _, _, _, _, _, _, _, _, _, _, _, _, _, _, _, _, _, _, _, _, _, _, _, _, _, _, _, _, _, _, _, _, _, _, _, _, _, _, _, _, _, q90, q97, q105, rfl, ⟨h.low, h.km, h.kt, h.h0, h.h1, h.h2, h.h3, h.h4, h.h5, h.h6, h.h7, h.h8, h.h9, h.h10, fun _ => rfl, h.h12, h.h13, h.h14, h.h15, h.h16, h.h17, h.h18, h.h19, h.h20, h.h21, h.h22, h.h23, h.h24, h.h25, h.h26, h.h27, h.h28, h.h29, h.h30, h.h31, h.h32, h.h33, h.h34, h.h35, h.h36, h.h37, h.h38, h.h39, h.h40, h.h41, h.h42, h.h43, h.h44, h.h45, h.h46, h.h47, h.h48, h.h49, h.h50, h.h51, h.h52, h.h53, h.h54⟩⟩
    | 12, _, hL, ho, hp =>
      simp only [List.getElem?_toArray, List.getElem?_cons_zero, List.getElem?_cons_succ, Option.some.injEq] at ho
      subst ho
      have p10 : L 10 = true := hp ⟨10, .guard⟩ (by simp) rfl
      obtain rfl := h.h10 p10
      have p11 : L 11 = true := hp ⟨11, .data⟩ (by simp) rfl
      obtain rfl := h.h11 p11
      rw [if_pos (by rfl)]
      go_simp
      exact ⟨_, _, _, _, _, _, _, _, _, _, _, _, _, _, _, _, _, _, _, _, _, _, _, _, _, _, _, _, _, _, _, _, _, _, _, _, _, _, _, _, _, _, _, _, _, _, _, _, _, _, _, _, _, _, _, q90, q97, q105, rfl, ⟨h.low, h.km, h.kt, h.h0, h.h1, h.h2, h.h3, h.h4, h.h5, h.h6, h.h7, h.h8, h.h9, h.h10, h.h11, fun _ => rfl, h.h13, h.h14, h.h15, h.h16, h.h17, h.h18, h.h19, h.h20, h.h21, h.h22, h.h23, h.h24, h.h25, h.h26, h.h27, h.h28, h.h29, h.h30, h.h31, h.h32, h.h33, h.h34, h.h35, h.h36, h.h37, h.h38, h.h39, h.h40, h.h41, h.h42, h.h43, h.h44, h.h45, h.h46, h.h47, h.h48, h.h49, h.h50, h.h51, h.h52, h.h53, h.h54⟩⟩
    | 13, _, hL, ho, hp =>
      simp only [List.getElem?_toArray, List.getElem?_cons_zero, List.getElem?_cons_succ, Option.some.injEq] at ho
      subst ho
      have p10 : L 10 = true := hp ⟨10, .data⟩ (by simp) rfl
      obtain rfl := h.h10 p10
      have p12 : L 12 = true := hp ⟨12, .data⟩ (by simp) rfl
      obtain rfl := h.h12 p12
      rw [if_pos (by rfl)]
      go_simp
      exact ⟨_, _, _, _, _, _, _, _, _, _, _, _, _, _, _, _, _, _, _, _, _, _, _, _, _, _, _, _, _, _, _, _, _, _, _, _, _, _, _, _, _, _, _, _, _, _, _, _, _, _, _, _, _, _, _, q90, q97, q105, rfl, ⟨h.low, h.km, h.kt, h.h0, h.h1, h.h2, h.h3, h.h4, h.h5, h.h6, h.h7, h.h8, h.h9, h.h10, h.h11, h.h12, fun _ => rfl, h.h14, h.h15, h.h16, h.h17, h.h18, h.h19, h.h20, h.h21, h.h22, h.h23, h.h24, h.h25, h.h26, h.h27, h.h28, h.h29, h.h30, h.h31, h.h32, h.h33, h.h34, h.h35, h.h36, h.h37, h.h38, h.h39, h.h40, h.h41, h.h42, h.h43, h.h44, h.h45, h.h46, h.h47, h.h48, h.h49, h.h50, h.h51, h.h52, h.h53, h.h54⟩⟩
    | 14, _, hL, ho, hp =>
      simp only [List.getElem?_toArray, List.getElem?_cons_zero, List.getElem?_cons_succ, Option.some.injEq] at ho
      subst ho
      have p13 : L 13 = true := hp ⟨13, .data⟩ (by simp) rfl
      obtain rfl := h.h13 p13
      rw [if_pos (by rfl)]
      go_simp
      exact ⟨_, _, _, _, _, _, _, _, _, _, _, _, _, _, _, _, _, _, _, _, _, _, _, _, _, _, _, _, _, _, _, _, _, _, _, _, _, _, _, _, _, _, _, _, _, _, _, _, _, _, _, _, _, _, _, q90, q97, q105, rfl, ⟨h.low, h.km, h.kt, h.h0, h.h1, h.h2, h.h3, h.h4, h.h5, h.h6, h.h7, h.h8, h.h9, h.h10, h.h11, h.h12, h.h13, fun _ => rfl, h.h15, h.h16, h.h17, h.h18, h.h19, h.h20, h.h21, h.h22, h.h23, h.h24, h.h25, h.h26, h.h27, h.h28, h.h29, h.h30, h.h31, h.h32, h.h33, h.h34, h.h35, h.h36, h.h37, h.h38, h.h39, h.h40, h.h41, h.h42, h.h43, h.h44, h.h45, h.h46, h.h47, h.h48, h.h49, h.h50, h.h51, h.h52, h.h53, h.h54⟩⟩
    | 15, _, hL, ho, hp =>
      simp only [List.getElem?_toArray, List.getElem?_cons_zero, List.getElem?_cons_succ, Option.some.injEq] at ho
      subst ho
      have p14 : L 14 = true := hp ⟨14, .guard⟩ (by simp) rfl
      obtain rfl := h.h14 p14
      rw [if_pos (by rfl)]
      go_simp
      exact ⟨_, _, _, _, _, _, _, _, _, _, _, _, _, _, _, _, _, _, _, _, _, _, _, _, _, _, _, _, _, _, _, _, _, _, _, _, _, _, _, _, _, _, _, _, _, _, _, _, _, _, _, _, _, _, _, q90, q97, q105, rfl, ⟨h.low, h.km, h.kt, h.h0, h.h1, h.h2, h.h3, h.h4, h.h5, h.h6, h.h7, h.h8, h.h9, h.h10, h.h11, h.h12, h.h13, h.h14, fun _ => rfl, h.h16, h.h17, h.h18, h.h19, h.h20, h.h21, h.h22, h.h23, h.h24, h.h25, h.h26, h.h27, h.h28, h.h29, h.h30, h.h31, h.h32, h.h33, h.h34, h.h35, h.h36, h.h37, h.h38, h.h39, h.h40, h.h41, h.h42, h.h43, h.h44, h.h45, h.h46, h.h47, h.h48, h.h49, h.h50, h.h51, h.h52, h.h53, h.h54⟩⟩
    | 16, _, hL, ho, hp =>
      simp only [List.getElem?_toArray, List.getElem?_cons_zero, List.getElem?_cons_succ, Option.some.injEq] at ho
      subst ho
      have p14 : L 14 = true := hp ⟨14, .guard⟩ (by simp) rfl
      obtain rfl := h.h14 p14
      have p15 : L 15 = true := hp ⟨15, .data⟩ (by simp) rfl
      obtain rfl := h.h15 p15
      rw [if_pos (by rfl)]
      go_simp
      exact ⟨_, _, _, _, _, _, _, _, _, _, _, _, _, _, _, _, _, _, _, _, _, _, _, _, _, _, _, _, _, _, _, _, _, _, _, _, _, _, _, _, _, _, _, _, _, _, _, _, _, _, _, _, _, _, _, q90, q97, q105, rfl, ⟨h.low, h.km, h.kt, h.h0, h.h1, h.h2, h.h3, h.h4, h.h5, h.h6, h.h7, h.h8, h.h9, h.h10, h.h11, h.h12, h.h13, h.h14, h.h15, fun _ => rfl, h.h17, h.h18, h.h19, h.h20, h.h21, h.h22, h.h23, h.h24, h.h25, h.h26, h.h27, h.h28, h.h29, h.h30, h.h31, h.h32, h.h33, h.h34, h.h35, h.h36, h.h37, h.h38, h.h39, h.h40, h.h41, h.h42, h.h43, h.h44, h.h45, h.h46, h.h47, h.h48, h.h49, h.h50, h.h51, h.h52, h.h53, h.h54⟩⟩
    | 17, _, hL, ho, hp =>
      simp only [List.getElem?_toArray, List.getElem?_cons_zero, List.getElem?_cons_succ, Option.some.injEq] at ho
      subst ho
      have p14 : L 14 = true := hp ⟨14, .data⟩ (by simp) rfl
      obtain rfl := h.h14 p14
      have p16 : L 16 = true := hp ⟨16, .data⟩ (by simp) rfl
      obtain rfl := h.h16 p16
      rw [if_pos (by rfl)]
      go_simp
      exact ⟨_, _, _, _, _, _, _, _, _, _, _, _, _, _, _, _, _, _, _, _, _, _, _, _, _, _, _, _, _, _, _, _, _, _, _, _, _, _, _, _, _, _, _, _, _, _, _, _, _, _, _, _, _, _, _, q90, q97, q105, rfl, ⟨h.low, h.km, h.kt, h.h0, h.h1, h.h2, h.h3, h.h4, h.h5, h.h6, h.h7, h.h8, h.h9, h.h10, h.h11, h.h12, h.h13, h.h14, h.h15, h.h16, fun _ => rfl, h.h18, h.h19, h.h20, h.h21, h.h22, h.h23, h.h24, h.h25, h.h26, h.h27, h.h28, h.h29, h.h30, h.h31, h.h32, h.h33, h.h34, h.h35, h.h36, h.h37, h.h38, h.h39, h.h40, h.h41, h.h42, h.h43, h.h44, h.h45, h.h46, h.h47, h.h48, h.h49, h.h50, h.h51, h.h52, h.h53, h.h54⟩⟩
    | 18, _, hL, ho, hp =>
      simp only [List.getElem?_toArray, List.getElem?_cons_zero, List.getElem?_cons_succ, Option.some.injEq] at ho
      subst ho
      have p17 : L 17 = true := hp ⟨17, .data⟩ (by simp) rfl
      obtain rfl := h.h17 p17
      rw [if_pos (by rfl)]
      go_simp
      exact ⟨_, _, _, _, _, _, _, _, _, _, _, _, _, _, _, _, _, _, _, _, _, _, _, _, _, _, _, _, _, _, _, _, _, _, _, _, _, _, _, _, _, _, _, _, _, _, _, _, _, _, _, _, _, _, _, q90, q97, q105, rfl, ⟨h.low, h.km, h.kt, h.h0, h.h1, h.h2, h.h3, h.h4, h.h5, h.h6, h.h7, h.h8, h.h9, h.h10, h.h11, h.h12, h.h13, h.h14, h.h15, h.h16, h.h17, fun _ => rfl, h.h19, h.h20, h.h21, h.h22, h.h23, h.h24, h.h25, h.h26, h.h27, h.h28, h.h29, h.h30, h.h31, h.h32, h.h33, h.h34, h.h35, h.h36, h.h37, h.h38, h.h39, h.h40, h.h41, h.h42, h.h43, h.h44, h.h45, h.h46, h.h47, h.h48, h.h49, h.h50, h.h51, h.h52, h.h53, h.h54⟩⟩
    | 19, _, hL, ho, hp =>
      simp only [List.getElem?_toArray, List.getElem?_cons_zero, List.getElem?_cons_succ, Option.some.injEq] at ho
      subst ho
      have p18 : L 18 = true := hp ⟨18, .guard⟩ (by simp) rfl
      obtain rfl := h.h18 p18
      rw [if_pos (by rfl)]
      go_simp
      exact ⟨_, _, _, _, _, _, _, _, _, _, _, _, _, _, _, _, _, _, _, _, _, _, _, _, _, _, _, _, _, _, _, _, _, _, _, _, _, _, _, _, _, _, _, _, _, _, _, _, _, _, _, _, _, _, _, q90, q97, q105, rfl, ⟨h.low, h.km, h.kt, h.h0, h.h1, h.h2, h.h3, h.h4, h.h5, h.h6, h.h7, h.h8, h.h9, h.h10, h.h11, h.h12, h.h13, h.h14, h.h15, h.h16, h.h17, h.h18, fun _ => rfl, h.h20, h.h21, h.h22, h.h23, h.h24, h.h25, h.h26, h.h27, h.h28, h.h29, h.h30, h.h31, h.h32, h.h33, h.h34, h.h35, h.h36, h.h37, h.h38, h.h39, h.h40, h.h41, h.h42, h.h43, h.h44, h.h45, h.h46, h.h47, h.h48, h.h49, h.h50, h.h51, h.h52, h.h53, h.h54⟩⟩
    | 20, _, hL, ho, hp =>
      simp only [List.getElem?_toArray, List.getElem?_cons_zero, List.getElem?_cons_succ, Option.some.injEq] at ho
      subst ho
      have p18 : L 18 = true := hp ⟨18, .guard⟩ (by simp) rfl
      obtain rfl := h.h18 p18
      have p19 : L 19 = true := hp ⟨19, .data⟩ (by simp) rfl
      obtain rfl := h.h19 p19
      rw [if_pos (by rfl)]
      go_simp
      exact ⟨_, _, _, _, _, _, _, _, _, _, _, _, _, _, _, _, _, _, _, _, _, _, _, _, _, _, _, _, _, _, _, _, _, _, _, _, _, _, _, _, _, _, _, _, _, _, _, _, _, _, _, _, _, _, _, q90, q97, q105, rfl, ⟨h.low, h.km, h.kt, h.h0, h.h1, h.h2, h.h3, h.h4, h.h5, h.h6, h.h7, h.h8, h.h9, h.h10, h.h11, h.h12, h.h13, h.h14, h.h15, h.h16, h.h17, h.h18, h.h19, fun _ => rfl, h.h21, h.h22, h.h23, h.h24, h.h25, h.h26, h.h27, h.h28, h.h29, h.h30, h.h31, h.h32, h.h33, h.h34, h.h35, h.h36, h.h37, h.h38, h.h39, h.h40, h.h41, h.h42, h.h43, h.h44, h.h45, h.h46, h.h47, h.h48, h.h49, h.h50, h.h51, h.h52, h.h53, h.h54⟩⟩
    | 21, _, hL, ho, hp =>
      simp only [List.getElem?_toArray, List.getElem?_cons_zero, List.getElem?_cons_succ, Option.some.injEq] at ho
      subst ho
      have p18 : L 18 = true := hp ⟨18, .data⟩ (by simp) rfl
      obtain rfl := h.h18 p18
      have p20 : L 20 = true := hp ⟨20, .data⟩ (by simp) rfl
      obtain rfl := h.h20 p20
      rw [if_pos (by rfl)]
      go_simp
      exact ⟨_, _, _, _, _, _, _, _, _, _, _, _, _, _, _, _, _, _, _, _, _, _, _, _, _, _, _, _, _, _, _, _, _, _, _, _, _, _, _, _, _, _, _, _, _, _, _, _, _, _, _, _, _, _, _, q90, q97, q105, rfl, ⟨h.low, h.km, h.kt, h.h0, h.h1, h.h2, h.h3, h.h4, h.h5, h.h6, h.h7, h.h8, h.h9, h.h10, h.h11, h.h12, h.h13, h.h14, h.h15, h.h16, h.h17, h.h18, h.h19, h.h20, fun _ => rfl, h.h22, h.h23, h.h24, h.h25, h.h26, h.h27, h.h28, h.h29, h.h30, h.h31, h.h32, h.h33, h.h34, h.h35, h.h36, h.h37, h.h38, h.h39, h.h40, h.h41, h.h42, h.h43, h.h44, h.h45, h.h46, h.h47, h.h48, h.h49, h.h50, h.h51, h.h52, h.h53, h.h54⟩⟩
    | 22, _, hL, ho, hp =>
      simp only [List.getElem?_toArray, List.getElem?_cons_zero, List.getElem?_cons_succ, Option.some.injEq] at ho
      subst ho
      have p21 : L 21 = true := hp ⟨21, .data⟩ (by simp) rfl
      obtain rfl := h.h21 p21
      rw [if_pos (by rfl)]
      go_simp
      exact ⟨_, _, _, _, _, _, _, _, _, _, _, _, _, _, _, _, _, _, _, _, _, _, _, _, _, _, _, _, _, _, _, _, _, _, _, _, _, _, _, _, _, _, _, _, _, _, _, _, _, _, _, _, _, _, _, q90, q97, q105, rfl, ⟨h.low, h.km, h.kt, h.h0, h.h1, h.h2, h.h3, h.h4, h.h5, h.h6, h.h7, h.h8, h.h9, h.h10, h.h11, h.h12, h.h13, h.h14, h.h15, h.h16, h.h17, h.h18, h.h19, h.h20, h.h21, fun _ => rfl, h.h23, h.h24, h.h25, h.h26, h.h27, h.h28, h.h29, h.h30, h.h31, h.h32, h.h33, h.h34, h.h35, h.h36, h.h37, h.h38, h.h39, h.h40, h.h41, h.h42, h.h43, h.h44, h.h45, h.h46, h.h47, h.h48, h.h49, h.h50, h.h51, h.h52, h.h53, h.h54⟩⟩
    | 23, _, hL, ho, hp =>
      simp only [List.getElem?_toArray, List.getElem?_cons_zero, List.getElem?_cons_succ, Option.some.injEq] at ho
      subst ho
      have p22 : L 22 = true := hp ⟨22, .guard⟩ (by simp) rfl
      obtain rfl := h.h22 p22
      rw [if_pos (by rfl)]
      go_simp
      exact ⟨_, _, _, _, _, _, _, _, _, _, _, _, _, _, _, _, _, _, _, _, _, _, _, _, _, _, _, _, _, _, _, _, _, _, _, _, _, _, _, _, _, _, _, _, _, _, _, _, _, _, _, _, _, _, _, q90, q97, q105, rfl, ⟨h.low, h.km, h.kt, h.h0, h.h1, h.h2, h.h3, h.h4, h.h5, h.h6, h.h7, h.h8, h.h9, h.h10, h.h11, h.h12, h.h13, h.h14, h.h15, h.h16, h.h17, h.h18, h.h19, h.h20, h.h21, h.h22, fun _ => rfl, h.h24, h.h25, h.h26, h.h27, h.h28, h.h29, h.h30, h.h31, h.h32, h.h33, h.h34, h.h35, h.h36, h.h37, h.h38, h.h39, h.h40, h.h41, h.h42, h.h43, h.h44, h.h45, h.h46, h.h47, h.h48, h.h49, h.h50, h.h51, h.h52, h.h53, h.h54⟩⟩
    | 24, _, hL, ho, hp =>
      simp only [List.getElem?_toArray, List.getElem?_cons_zero, List.getElem?_cons_succ, Option.some.injEq] at ho
      subst ho
      have p22 : L 22 = true := hp ⟨22, .guard⟩ (by simp) rfl
      obtain rfl := h.h22 p22
      have p23 : L 23 = true := hp ⟨23, .data⟩ (by simp) rfl
      obtain rfl := h.h23 p23
      rw [if_pos (by rfl)]
      go_simp
      exact ⟨_, _, _, _, _, _, _, _, _, _, _, _, _, _, _, _, _, _, _, _, _, _, _, _, _, _, _, _, _, _, _, _, _, _, _, _, _, _, _, _, _, _, _, _, _, _, _, _, _, _, _, _, _, _, _, q90, q97, q105, rfl, ⟨h.low, h.km, h.kt, h.h0, h.h1, h.h2, h.h3, h.h4, h.h5, h.h6, h.h7, h.h8, h.h9, h.h10, h.h11, h.h12, h.h13, h.h14, h.h15, h.h16, h.h17, h.h18, h.h19, h.h20, h.h21, h.h22, h.h23, fun _ => rfl, h.h25, h.h26, h.h27, h.h28, h.h29, h.h30, h.h31, h.h32, h.h33, h.h34, h.h35, h.h36, h.h37, h.h38, h.h39, h.h40, h.h41, h.h42, h.h43, h.h44, h.h45, h.h46, h.h47, h.h48, h.h49, h.h50, h.h51, h.h52, h.h53, h.h54⟩⟩
    | 25, _, hL, ho, hp =>
      simp only [List.getElem?_toArray, List.getElem?_cons_zero, List.getElem?_cons_succ, Option.some.injEq] at ho
      subst ho
      have p22 : L 22 = true := hp ⟨22, .data⟩ (by simp) rfl
      obtain rfl := h.h22 p22
      have p24 : L 24 = true := hp ⟨24, .data⟩ (by simp) rfl
      obtain rfl := h.h24 p24
      rw [if_pos (by rfl)]
      go_simp
      exact ⟨_, _, _, _, _, _, _, _, _, _, _, _, _, _, _, _, _, _, _, _, _, _, _, _, _, _, _, _, _, _, _, _, _, _, _, _, _, _, _, _, _, _, _, _, _, _, _, _, _, _, _, _, _, _, _, q90, q97, q105, rfl, ⟨h.low, h.km, h.kt, h.h0, h.h1, h.h2, h.h3, h.h4, h.h5, h.h6, h.h7, h.h8, h.h9, h.h10, h.h11, h.h12, h.h13, h.h14, h.h15, h.h16, h.h17, h.h18, h.h19, h.h20, h.h21, h.h22, h.h23, h.h24, fun _ => rfl, h.h26, h.h27, h.h28, h.h29, h.h30, h.h31, h.h32, h.h33, h.h34, h.h35, h.h36, h.h37, h.h38, h.h39, h.h40, h.h41, h.h42, h.h43, h.h44, h.h45, h.h46, h.h47, h.h48, h.h49, h.h50, h.h51, h.h52, h.h53, h.h54⟩⟩
    | 26, _, hL, ho, hp =>
      simp only [List.getElem?_toArray, List.getElem?_cons_zero, List.getElem?_cons_succ, Option.some.injEq] at ho
      subst ho
      have p25 : L 25 = true := hp ⟨25, .data⟩ (by simp) rfl
      obtain rfl := h.h25 p25
      rw [if_pos (by rfl)]
      go_simp
      exact ⟨_, _, _, _, _, _, _, _, _, _, _, _, _, _, _, _, _, _, _, _, _, _, _, _, _, _, _, _, _, _, _, _, _, _, _, _, _, _, _, _, _, _, _, _, _, _, _, _, _, _, _, _, _, _, _, q90, q97, q105, rfl, ⟨h.low, h.km, h.kt, h.h0, h.h1, h.h2, h.h3, h.h4, h.h5, h.h6, h.h7, h.h8, h.h9, h.h10, h.h11, h.h12, h.h13, h.h14, h.h15, h.h16, h.h17, h.h18, h.h19, h.h20, h.h21, h.h22, h.h23, h.h24, h.h25, fun _ => rfl, h.h27, h.h28, h.h29, h.h30, h.h31, h.h32, h.h33, h.h34, h.h35, h.h36, h.h37, h.h38, h.h39, h.h40, h.h41, h.h42, h.h43, h.h44, h.h45, h.h46, h.h47, h.h48, h.h49, h.h50, h.h51, h.h52, h.h53, h.h54⟩⟩
    | 27, _, hL, ho, hp =>
      simp only [List.getElem?_toArray, List.getElem?_cons_zero, List.getElem?_cons_succ, Option.some.injEq] at ho
      subst ho
      have p26 : L 26 = true := hp ⟨26, .guard⟩ (by simp) rfl
      obtain rfl := h.h26 p26
      rw [if_pos (by rfl)]
      have ckm0 := h.km.cell 0
      have ckm1 := h.km.cell 1
      have ckm2 := h.km.cell 2
      have ckm3 := h.km.cell 3
      have ckm4 := h.km.cell 4
      have ckm5 := h.km.cell 5
      have ckm6 := h.km.cell 6
      have ckm7 := h.km.cell 7
      have lkm := h.km.lt
      simp only [List.getElem?_toArray, List.getElem?_cons_zero, List.getElem?_cons_succ] at ckm0 ckm1 ckm2 ckm3 ckm4 ckm5 ckm6 ckm7
      go_simp
      exact ⟨_, _, _, _, _, _, _, _, _, _, _, _, _, _, _, _, _, _, _, _, _, _, _, _, _, _, _, _, _, _, _, _, _, _, _, _, _, _, _, _, _, _, _, _, _, _, _, _, _, _, _, _, _, _, _, q90, q97, q105, rfl, ⟨h.low, h.km, h.kt, h.h0, h.h1, h.h2, h.h3, h.h4, h.h5, h.h6, h.h7, h.h8, h.h9, h.h10, h.h11, h.h12, h.h13, h.h14, h.h15, h.h16, h.h17, h.h18, h.h19, h.h20, h.h21, h.h22, h.h23, h.h24, h.h25, h.h26, fun _ => rfl, h.h28, h.h29, h.h30, h.h31, h.h32, h.h33, h.h34, h.h35, h.h36, h.h37, h.h38, h.h39, h.h40, h.h41, h.h42, h.h43, h.h44, h.h45, h.h46, h.h47, h.h48, h.h49, h.h50, h.h51, h.h52, h.h53, h.h54⟩⟩
    | 28, _, hL, ho, hp =>
      simp only [List.getElem?_toArray, List.getElem?_cons_zero, List.getElem?_cons_succ, Option.some.injEq] at ho
      subst ho
      have p26 : L 26 = true := hp ⟨26, .guard⟩ (by simp) rfl
      obtain rfl := h.h26 p26
      have p27 : L 27 = true := hp ⟨27, .data⟩ (by simp) rfl
      obtain rfl := h.h27 p27
      rw [if_pos (by rfl)]
      go_simp
      go_at_call 20
      (with_reducible refine (HLF.out _ h.low).mono ?_)
      rintro e X2 ⟨rfl, gb⟩
      have hlow2 := below_later h.low gb
      exact ⟨_, _, _, _, _, _, _, _, _, _, _, _, _, _, _, _, _, _, _, _, _, _, _, _, _, _, _, _, _, _, _, _, _, _, _, _, _, _, _, _, _, _, _, _, _, _, _, _, _, _, _, _, _, _, _, q90, q97, q105, rfl, ⟨hlow2, h.km.later gb, h.kt.later gb, h.h0, h.h1, h.h2, h.h3, h.h4, h.h5, h.h6, h.h7, h.h8, h.h9, h.h10, h.h11, h.h12, h.h13, h.h14, h.h15, h.h16, h.h17, h.h18, h.h19, h.h20, h.h21, h.h22, h.h23, h.h24, h.h25, h.h26, h.h27, fun _ => rfl, h.h29, h.h30, h.h31, h.h32, h.h33, h.h34, h.h35, fun e => ⟨(h.h36 e).1, (h.h36 e).2.later gb⟩, h.h37, h.h38, h.h39, h.h40, h.h41, h.h42, fun e => ⟨(h.h43 e).1, (h.h43 e).2.later gb⟩, h.h44, h.h45, h.h46, h.h47, h.h48, h.h49, h.h50, fun e => ⟨(h.h51 e).1, (h.h51 e).2.later gb⟩, h.h52, h.h53, h.h54⟩⟩
    | 29, _, hL, ho, hp =>
      simp only [List.getElem?_toArray, List.getElem?_cons_zero, List.getElem?_cons_succ, Option.some.injEq] at ho
      subst ho
      have p26 : L 26 = true := hp ⟨26, .guard⟩ (by simp) rfl
      obtain rfl := h.h26 p26
      have p28 : L 28 = true := hp ⟨28, .data⟩ (by simp) rfl
      obtain rfl := h.h28 p28
      rw [if_pos (by rfl)]
      go_simp
      exact ⟨_, _, _, _, _, _, _, _, _, _, _, _, _, _, _, _, _, _, _, _, _, _, _, _, _, _, _, _, _, _, _, _, _, _, _, _, _, _, _, _, _, _, _, _, _, _, _, _, _, _, _, _, _, _, _, q90, q97, q105, rfl, ⟨h.low, h.km, h.kt, h.h0, h.h1, h.h2, h.h3, h.h4, h.h5, h.h6, h.h7, h.h8, h.h9, h.h10, h.h11, h.h12, h.h13, h.h14, h.h15, h.h16, h.h17, h.h18, h.h19, h.h20, h.h21, h.h22, h.h23, h.h24, h.h25, h.h26, h.h27, h.h28, fun _ => rfl, h.h30, h.h31, h.h32, h.h33, h.h34, h.h35, h.h36, h.h37, h.h38, h.h39, h.h40, h.h41, h.h42, h.h43, h.h44, h.h45, h.h46, h.h47, h.h48, h.h49, h.h50, h.h51, h.h52, h.h53, h.h54⟩⟩
    | 30, _, hL, ho, hp =>
      simp only [List.getElem?_toArray, List.getElem?_cons_zero, List.getElem?_cons_succ, Option.some.injEq] at ho
      subst ho
      have p26 : L 26 = true := hp ⟨26, .data⟩ (by simp) rfl
      obtain rfl := h.h26 p26
      have p29 : L 29 = true := hp ⟨29, .data⟩ (by simp) rfl
      obtain rfl := h.h29 p29
      rw [if_pos (by rfl)]
      go_simp
      exact ⟨_, _, _, _, _, _, _, _, _, _, _, _, _, _, _, _, _, _, _, _, _, _, _, _, _, _, _, _, _, _, _, _, _, _, _, _, _, _, _, _, _, _, _, _, _, _, _, _, _, _, _, _, _, _, _, q90, q97, q105, rfl, ⟨h.low, h.km, h.kt, h.h0, h.h1, h.h2, h.h3, h.h4, h.h5, h.h6, h.h7, h.h8, h.h9, h.h10, h.h11, h.h12, h.h13, h.h14, h.h15, h.h16, h.h17, h.h18, h.h19, h.h20, h.h21, h.h22, h.h23, h.h24, h.h25, h.h26, h.h27, h.h28, h.h29, fun _ => rfl, h.h31, h.h32, h.h33, h.h34, h.h35, h.h36, h.h37, h.h38, h.h39, h.h40, h.h41, h.h42, h.h43, h.h44, h.h45, h.h46, h.h47, h.h48, h.h49, h.h50, h.h51, h.h52, h.h53, h.h54⟩⟩
    | 31, _, hL, ho, hp =>
      simp only [List.getElem?_toArray, List.getElem?_cons_zero, List.getElem?_cons_succ, Option.some.injEq] at ho
      subst ho
      have p30 : L 30 = true := hp ⟨30, .data⟩ (by simp) rfl
      obtain rfl := h.h30 p30
      rw [if_pos (by rfl)]
      go_simp
      exact ⟨_, _, _, _, _, _, _, _, _, _, _, _, _, _, _, _, _, _, _, _, _, _, _, _, _, _, _, _, _, _, _, _, _, _, _, _, _, _, _, _, _, _, _, _, _, _, _, _, _, _, _, _, _, _, _, q90, q97, q105, rfl, ⟨h.low, h.km, h.kt, h.h0, h.h1, h.h2, h.h3, h.h4, h.h5, h.h6, h.h7, h.h8, h.h9, h.h10, h.h11, h.h12, h.h13, h.h14, h.h15, h.h16, h.h17, h.h18, h.h19, h.h20, h.h21, h.h22, h.h23, h.h24, h.h25, h.h26, h.h27, h.h28, h.h29, h.h30, fun _ => rfl, h.h32, h.h33, h.h34, h.h35, h.h36, h.h37, h.h38, h.h39, h.h40, h.h41, h.h42, h.h43, h.h44, h.h45, h.h46, h.h47, h.h48, h.h49, h.h50, h.h51, h.h52, h.h53, h.h54⟩⟩
    | 32, _, hL, ho, hp =>
      simp only [List.getElem?_toArray, List.getElem?_cons_zero, List.getElem?_cons_succ, Option.some.injEq] at ho
      subst ho
      have p31 : L 31 = true := hp ⟨31, .guard⟩ (by simp) rfl
      obtain rfl := h.h31 p31
      rw [if_pos (by rfl)]
      go_simp
      exact ⟨_, _, _, _, _, _, _, _, _, _, _, _, _, _, _, _, _, _, _, _, _, _, _, _, _, _, _, _, _, _, _, _, _, _, _, _, _, _, _, _, _, _, _, _, _, _, _, _, _, _, _, _, _, _, _, q90, q97, q105, rfl, ⟨h.low, h.km, h.kt, h.h0, h.h1, h.h2, h.h3, h.h4, h.h5, h.h6, h.h7, h.h8, h.h9, h.h10, h.h11, h.h12, h.h13, h.h14, h.h15, h.h16, h.h17, h.h18, h.h19, h.h20, h.h21, h.h22, h.h23, h.h24, h.h25, h.h26, h.h27, h.h28, h.h29, h.h30, h.h31, fun _ => rfl, h.h33, h.h34, h.h35, h.h36, h.h37, h.h38, h.h39, h.h40, h.h41, h.h42, h.h43, h.h44, h.h45, h.h46, h.h47, h.h48, h.h49, h.h50, h.h51, h.h52, h.h53, h.h54⟩⟩
    | 33, _, hL, ho, hp =>
      simp only [List.getElem?_toArray, List.getElem?_cons_zero, List.getElem?_cons_succ, Option.some.injEq] at ho
      subst ho
      have p31 : L 31 = true := hp ⟨31, .guard⟩ (by simp) rfl
      obtain rfl := h.h31 p31
      have p32 : L 32 = true := hp ⟨32, .data⟩ (by simp) rfl
      obtain rfl := h.h32 p32
      rw [if_pos (by rfl)]
      have ckt0 := h.kt.cell 0
      have lkt := h.kt.lt
      simp only [List.getElem?_toArray, List.getElem?_cons_zero] at ckt0
      go_simp
      exact ⟨_, _, _, _, _, _, _, _, _, _, _, _, _, _, _, _, _, _, _, _, _, _, _, _, _, _, _, _, _, _, _, _, _, _, _, _, _, _, _, _, _, _, _, _, _, _, _, _, _, _, _, _, _, _, _, q90, q97, q105, rfl, ⟨h.low, h.km, h.kt, h.h0, h.h1, h.h2, h.h3, h.h4, h.h5, h.h6, h.h7, h.h8, h.h9, h.h10, h.h11, h.h12, h.h13, h.h14, h.h15, h.h16, h.h17, h.h18, h.h19, h.h20, h.h21, h.h22, h.h23, h.h24, h.h25, h.h26, h.h27, h.h28, h.h29, h.h30, h.h31, h.h32, fun _ => rfl, h.h34, h.h35, h.h36, h.h37, h.h38, h.h39, h.h40, h.h41, h.h42, h.h43, h.h44, h.h45, h.h46, h.h47, h.h48, h.h49, h.h50, h.h51, h.h52, h.h53, h.h54⟩⟩
    | 34, _, hL, ho, hp =>
      simp only [List.getElem?_toArray, List.getElem?_cons_zero, List.getElem?_cons_succ, Option.some.injEq] at ho
      subst ho
      have p31 : L 31 = true := hp ⟨31, .guard⟩ (by simp) rfl
      obtain rfl := h.h31 p31
      rw [if_pos (by rfl)]
      go_simp
      go_at_call 46
      (with_reducible refine (HSM.out 2 _).mono ?_)
      rintro e X2 ⟨rfl, gX⟩
      have gb := gX.below
      have hlow2 := below_later h.low gb
      exact ⟨_, _, _, _, _, _, _, _, _, _, _, _, _, _, _, _, _, _, _, _, _, _, _, _, _, _, _, _, _, _, _, _, _, _, _, _, _, _, _, _, _, _, _, _, _, _, _, _, _, _, _, _, _, _, _, q90, q97, q105, rfl, ⟨hlow2, h.km.later gb, h.kt.later gb, h.h0, h.h1, h.h2, h.h3, h.h4, h.h5, h.h6, h.h7, h.h8, h.h9, h.h10, h.h11, h.h12, h.h13, h.h14, h.h15, h.h16, h.h17, h.h18, h.h19, h.h20, h.h21, h.h22, h.h23, h.h24, h.h25, h.h26, h.h27, h.h28, h.h29, h.h30, h.h31, h.h32, h.h33, fun _ => rfl, h.h35, fun e => ⟨(h.h36 e).1, (h.h36 e).2.later gb⟩, h.h37, h.h38, h.h39, h.h40, h.h41, h.h42, fun e => ⟨(h.h43 e).1, (h.h43 e).2.later gb⟩, h.h44, h.h45, h.h46, h.h47, h.h48, h.h49, h.h50, fun e => ⟨(h.h51 e).1, (h.h51 e).2.later gb⟩, h.h52, h.h53, h.h54⟩⟩
    | 35, _, hL, ho, hp =>
      simp only [List.getElem?_toArray, List.getElem?_cons_zero, List.getElem?_cons_succ, Option.some.injEq] at ho
      subst ho
      have p31 : L 31 = true := hp ⟨31, .guard⟩ (by simp) rfl
      obtain rfl := h.h31 p31
      rw [if_pos (by rfl)]
      go_simp
      go_at_call 46
      (with_reducible refine (HSM.out 3 _).mono ?_)
      rintro e X2 ⟨rfl, gX⟩
      have gb := gX.below
      have hlow2 := below_later h.low gb
      exact ⟨_, _, _, _, _, _, _, _, _, _, _, _, _, _, _, _, _, _, _, _, _, _, _, _, _, _, _, _, _, _, _, _, _, _, _, _, _, _, _, _, _, _, _, _, _, _, _, _, _, _, _, _, _, _, _, q90, q97, q105, rfl, ⟨hlow2, h.km.later gb, h.kt.later gb, h.h0, h.h1, h.h2, h.h3, h.h4, h.h5, h.h6, h.h7, h.h8, h.h9, h.h10, h.h11, h.h12, h.h13, h.h14, h.h15, h.h16, h.h17, h.h18, h.h19, h.h20, h.h21, h.h22, h.h23, h.h24, h.h25, h.h26, h.h27, h.h28, h.h29, h.h30, h.h31, h.h32, h.h33, h.h34, fun _ => rfl, fun e => ⟨(h.h36 e).1, (h.h36 e).2.later gb⟩, h.h37, h.h38, h.h39, h.h40, h.h41, h.h42, fun e => ⟨(h.h43 e).1, (h.h43 e).2.later gb⟩, h.h44, h.h45, h.h46, h.h47, h.h48, h.h49, h.h50, fun e => ⟨(h.h51 e).1, (h.h51 e).2.later gb⟩, h.h52, h.h53, h.h54⟩⟩
    | 36, _, hL, ho, hp =>
      simp only [List.getElem?_toArray, List.getElem?_cons_zero, List.getElem?_cons_succ, Option.some.injEq] at ho
      subst ho
      have p31 : L 31 = true := hp ⟨31, .guard⟩ (by simp) rfl
      obtain rfl := h.h31 p31
      have p34 : L 34 = true := hp ⟨34, .data⟩ (by simp) rfl
      obtain rfl := h.h34 p34
      have p35 : L 35 = true := hp ⟨35, .data⟩ (by simp) rfl
      obtain rfl := h.h35 p35
      rw [if_pos (by rfl)]
      go_simp
      have gb := (Gr.alloc X (.cells #[.int .u64 2, .int .u64 2, .int .u64 3, .int .u64 3] 53)).below
      have hlow2 := below_later h.low gb
      exact ⟨_, _, _, _, _, _, _, _, _, _, _, _, _, _, _, _, _, _, _, _, _, _, _, _, _, _, _, _, _, _, _, _, _, _, _, _, _, _, _, _, _, _, _, _, _, _, _, _, _, _, _, _, _, _, _, X.heap.size, q97, q105, rfl, ⟨hlow2, h.km.later gb, h.kt.later gb, h.h0, h.h1, h.h2, h.h3, h.h4, h.h5, h.h6, h.h7, h.h8, h.h9, h.h10, h.h11, h.h12, h.h13, h.h14, h.h15, h.h16, h.h17, h.h18, h.h19, h.h20, h.h21, h.h22, h.h23, h.h24, h.h25, h.h26, h.h27, h.h28, h.h29, h.h30, h.h31, h.h32, h.h33, h.h34, h.h35, fun _ => ⟨rfl, SegP.of_blk (l := [(2, 2), (3, 3)]) (cap := 2) (Blk.new _ _ _) (by simp) (by decide) rfl⟩, h.h37, h.h38, h.h39, h.h40, h.h41, h.h42, fun e => ⟨(h.h43 e).1, (h.h43 e).2.later gb⟩, h.h44, h.h45, h.h46, h.h47, h.h48, h.h49, h.h50, fun e => ⟨(h.h51 e).1, (h.h51 e).2.later gb⟩, h.h52, h.h53, h.h54⟩⟩
    | 37, _, hL, ho, hp =>
      simp only [List.getElem?_toArray, List.getElem?_cons_zero, List.getElem?_cons_succ, Option.some.injEq] at ho
      subst ho
      have p31 : L 31 = true := hp ⟨31, .guard⟩ (by simp) rfl
      obtain rfl := h.h31 p31
      have p33 : L 33 = true := hp ⟨33, .data⟩ (by simp) rfl
      obtain rfl := h.h33 p33
      have p36 : L 36 = true := hp ⟨36, .data⟩ (by simp) rfl
      obtain ⟨rfl, hd36⟩ := h.h36 p36
      rw [if_pos (by rfl)]
      go_simp
      go_at_call 28
      (with_reducible refine (HEQ.out _ _ [(2, 2), (3, 3)] X (HrA.out _ h.low) hd36).mono ?_)
      rintro e X2 ⟨rfl, gX⟩
      have gb := gX.below
      have hlow2 := below_later h.low gb
      exact ⟨_, _, _, _, _, _, _, _, _, _, _, _, _, _, _, _, _, _, _, _, _, _, _, _, _, _, _, _, _, _, _, _, _, _, _, _, _, _, _, _, _, _, _, _, _, _, _, _, _, _, _, _, _, _, _, q90, q97, q105, rfl, ⟨hlow2, h.km.later gb, h.kt.later gb, h.h0, h.h1, h.h2, h.h3, h.h4, h.h5, h.h6, h.h7, h.h8, h.h9, h.h10, h.h11, h.h12, h.h13, h.h14, h.h15, h.h16, h.h17, h.h18, h.h19, h.h20, h.h21, h.h22, h.h23, h.h24, h.h25, h.h26, h.h27, h.h28, h.h29, h.h30, h.h31, h.h32, h.h33, h.h34, h.h35, fun e => ⟨(h.h36 e).1, (h.h36 e).2.later gb⟩, fun _ => rfl, h.h38, h.h39, h.h40, h.h41, h.h42, fun e => ⟨(h.h43 e).1, (h.h43 e).2.later gb⟩, h.h44, h.h45, h.h46, h.h47, h.h48, h.h49, h.h50, fun e => ⟨(h.h51 e).1, (h.h51 e).2.later gb⟩, h.h52, h.h53, h.h54⟩⟩
    | 38, _, hL, ho, hp =>
      simp only [List.getElem?_toArray, List.getElem?_cons_zero, List.getElem?_cons_succ, Option.some.injEq] at ho
      subst ho
      have p31 : L 31 = true := hp ⟨31, .data⟩ (by simp) rfl
      obtain rfl := h.h31 p31
      have p37 : L 37 = true := hp ⟨37, .data⟩ (by simp) rfl
      obtain rfl := h.h37 p37
      rw [if_pos (by rfl)]
      go_simp
      exact ⟨_, _, _, _, _, _, _, _, _, _, _, _, _, _, _, _, _, _, _, _, _, _, _, _, _, _, _, _, _, _, _, _, _, _, _, _, _, _, _, _, _, _, _, _, _, _, _, _, _, _, _, _, _, _, _, q90, q97, q105, rfl, ⟨h.low, h.km, h.kt, h.h0, h.h1, h.h2, h.h3, h.h4, h.h5, h.h6, h.h7, h.h8, h.h9, h.h10, h.h11, h.h12, h.h13, h.h14, h.h15, h.h16, h.h17, h.h18, h.h19, h.h20, h.h21, h.h22, h.h23, h.h24, h.h25, h.h26, h.h27, h.h28, h.h29, h.h30, h.h31, h.h32, h.h33, h.h34, h.h35, h.h36, h.h37, fun _ => rfl, h.h39, h.h40, h.h41, h.h42, h.h43, h.h44, h.h45, h.h46, h.h47, h.h48, h.h49, h.h50, h.h51, h.h52, h.h53, h.h54⟩⟩
    | 39, _, hL, ho, hp =>
      simp only [List.getElem?_toArray, List.getElem?_cons_zero, List.getElem?_cons_succ, Option.some.injEq] at ho
      subst ho
      have p38 : L 38 = true := hp ⟨38, .data⟩ (by simp) rfl
      obtain rfl := h.h38 p38
      rw [if_pos (by rfl)]
      go_simp
      exact ⟨_, _, _, _, _, _, _, _, _, _, _, _, _, _, _, _, _, _, _, _, _, _, _, _, _, _, _, _, _, _, _, _, _, _, _, _, _, _, _, _, _, _, _, _, _, _, _, _, _, _, _, _, _, _, _, q90, q97, q105, rfl, ⟨h.low, h.km, h.kt, h.h0, h.h1, h.h2, h.h3, h.h4, h.h5, h.h6, h.h7, h.h8, h.h9, h.h10, h.h11, h.h12, h.h13, h.h14, h.h15, h.h16, h.h17, h.h18, h.h19, h.h20, h.h21, h.h22, h.h23, h.h24, h.h25, h.h26, h.h27, h.h28, h.h29, h.h30, h.h31, h.h32, h.h33, h.h34, h.h35, h.h36, h.h37, h.h38, fun _ => rfl, h.h40, h.h41, h.h42, h.h43, h.h44, h.h45, h.h46, h.h47, h.h48, h.h49, h.h50, h.h51, h.h52, h.h53, h.h54⟩⟩
    | 40, _, hL, ho, hp =>
      simp only [List.getElem?_toArray, List.getElem?_cons_zero, List.getElem?_cons_succ, Option.some.injEq] at ho
      subst ho
      have p39 : L 39 = true := hp ⟨39, .guard⟩ (by simp) rfl
      obtain rfl := h.h39 p39
      rw [if_pos (by rfl)]
      go_simp
      exact ⟨_, _, _, _, _, _, _, _, _, _, _, _, _, _, _, _, _, _, _, _, _, _, _, _, _, _, _, _, _, _, _, _, _, _, _, _, _, _, _, _, _, _, _, _, _, _, _, _, _, _, _, _, _, _, _, q90, q97, q105, rfl, ⟨h.low, h.km, h.kt, h.h0, h.h1, h.h2, h.h3, h.h4, h.h5, h.h6, h.h7, h.h8, h.h9, h.h10, h.h11, h.h12, h.h13, h.h14, h.h15, h.h16, h.h17, h.h18, h.h19, h.h20, h.h21, h.h22, h.h23, h.h24, h.h25, h.h26, h.h27, h.h28, h.h29, h.h30, h.h31, h.h32, h.h33, h.h34, h.h35, h.h36, h.h37, h.h38, h.h39, fun _ => rfl, h.h41, h.h42, h.h43, h.h44, h.h45, h.h46, h.h47, h.h48, h.h49, h.h50, h.h51, h.h52, h.h53, h.h54⟩⟩
    | 41, _, hL, ho, hp =>
      simp only [List.getElem?_toArray, List.getElem?_cons_zero, List.getElem?_cons_succ, Option.some.injEq] at ho
      subst ho
      have p39 : L 39 = true := hp ⟨39, .guard⟩ (by simp) rfl
      obtain rfl := h.h39 p39
      have p40 : L 40 = true := hp ⟨40, .data⟩ (by simp) rfl
      obtain rfl := h.h40 p40
      rw [if_pos (by rfl)]
      have ckt1 := h.kt.cell 1
      have lkt := h.kt.lt
      simp only [List.getElem?_toArray, List.getElem?_cons_zero, List.getElem?_cons_succ] at ckt1
      go_simp
      exact ⟨_, _, _, _, _, _, _, _, _, _, _, _, _, _, _, _, _, _, _, _, _, _, _, _, _, _, _, _, _, _, _, _, _, _, _, _, _, _, _, _, _, _, _, _, _, _, _, _, _, _, _, _, _, _, _, q90, q97, q105, rfl, ⟨h.low, h.km, h.kt, h.h0, h.h1, h.h2, h.h3, h.h4, h.h5, h.h6, h.h7, h.h8, h.h9, h.h10, h.h11, h.h12, h.h13, h.h14, h.h15, h.h16, h.h17, h.h18, h.h19, h.h20, h.h21, h.h22, h.h23, h.h24, h.h25, h.h26, h.h27, h.h28, h.h29, h.h30, h.h31, h.h32, h.h33, h.h34, h.h35, h.h36, h.h37, h.h38, h.h39, h.h40, fun _ => rfl, h.h42, h.h43, h.h44, h.h45, h.h46, h.h47, h.h48, h.h49, h.h50, h.h51, h.h52, h.h53, h.h54⟩⟩
    | 42, _, hL, ho, hp =>
      simp only [List.getElem?_toArray, List.getElem?_cons_zero, List.getElem?_cons_succ, Option.some.injEq] at ho
      subst ho
      have p39 : L 39 = true := hp ⟨39, .guard⟩ (by simp) rfl
      obtain rfl := h.h39 p39
      rw [if_pos (by rfl)]
      go_simp
      go_at_call 46
      (with_reducible refine (HSM.out 1 _).mono ?_)
      rintro e X2 ⟨rfl, gX⟩
      have gb := gX.below
      have hlow2 := below_later h.low gb
      exact ⟨_, _, _, _, _, _, _, _, _, _, _, _, _, _, _, _, _, _, _, _, _, _, _, _, _, _, _, _, _, _, _, _, _, _, _, _, _, _, _, _, _, _, _, _, _, _, _, _, _, _, _, _, _, _, _, q90, q97, q105, rfl, ⟨hlow2, h.km.later gb, h.kt.later gb, h.h0, h.h1, h.h2, h.h3, h.h4, h.h5, h.h6, h.h7, h.h8, h.h9, h.h10, h.h11, h.h12, h.h13, h.h14, h.h15, h.h16, h.h17, h.h18, h.h19, h.h20, h.h21, h.h22, h.h23, h.h24, h.h25, h.h26, h.h27, h.h28, h.h29, h.h30, h.h31, h.h32, h.h33, h.h34, h.h35, fun e => ⟨(h.h36 e).1, (h.h36 e).2.later gb⟩, h.h37, h.h38, h.h39, h.h40, h.h41, fun _ => rfl, fun e => ⟨(h.h43 e).1, (h.h43 e).2.later gb⟩, h.h44, h.h45, h.h46, h.h47, h.h48, h.h49, h.h50, fun e => ⟨(h.h51 e).1, (h.h51 e).2.later gb⟩, h.h52, h.h53, h.h54⟩⟩
    | 43, _, hL, ho, hp =>
      simp only [List.getElem?_toArray, List.getElem?_cons_zero, List.getElem?_cons_succ, Option.some.injEq] at ho
      subst ho
      have p39 : L 39 = true := hp ⟨39, .guard⟩ (by simp) rfl
      obtain rfl := h.h39 p39
      have p42 : L 42 = true := hp ⟨42, .data⟩ (by simp) rfl
      obtain rfl := h.h42 p42
      rw [if_pos (by rfl)]
      go_simp
      have gb := (Gr.alloc X (.cells #[.int .u64 1, .int .u64 1] 53)).below
      have hlow2 := below_later h.low gb
      exact ⟨_, _, _, _, _, _, _, _, _, _, _, _, _, _, _, _, _, _, _, _, _, _, _, _, _, _, _, _, _, _, _, _, _, _, _, _, _, _, _, _, _, _, _, _, _, _, _, _, _, _, _, _, _, _, _, q90, X.heap.size, q105, rfl, ⟨hlow2, h.km.later gb, h.kt.later gb, h.h0, h.h1, h.h2, h.h3, h.h4, h.h5, h.h6, h.h7, h.h8, h.h9, h.h10, h.h11, h.h12, h.h13, h.h14, h.h15, h.h16, h.h17, h.h18, h.h19, h.h20, h.h21, h.h22, h.h23, h.h24, h.h25, h.h26, h.h27, h.h28, h.h29, h.h30, h.h31, h.h32, h.h33, h.h34, h.h35, fun e => ⟨(h.h36 e).1, (h.h36 e).2.later gb⟩, h.h37, h.h38, h.h39, h.h40, h.h41, h.h42, fun _ => ⟨rfl, SegP.of_blk (l := [(1, 1)]) (cap := 1) (Blk.new _ _ _) (by simp) (by decide) rfl⟩, h.h44, h.h45, h.h46, h.h47, h.h48, h.h49, h.h50, fun e => ⟨(h.h51 e).1, (h.h51 e).2.later gb⟩, h.h52, h.h53, h.h54⟩⟩
    | 44, _, hL, ho, hp =>
      simp only [List.getElem?_toArray, List.getElem?_cons_zero, List.getElem?_cons_succ, Option.some.injEq] at ho
      subst ho
      have p39 : L 39 = true := hp ⟨39, .guard⟩ (by simp) rfl
      obtain rfl := h.h39 p39
      have p41 : L 41 = true := hp ⟨41, .data⟩ (by simp) rfl
      obtain rfl := h.h41 p41
      have p43 : L 43 = true := hp ⟨43, .data⟩ (by simp) rfl
      obtain ⟨rfl, hd43⟩ := h.h43 p43
      rw [if_pos (by rfl)]
      go_simp
      go_at_call 28
      (with_reducible refine (HEQ.out _ _ [(1, 1)] X (HrB.out _ h.low) hd43).mono ?_)
      rintro e X2 ⟨rfl, gX⟩
      have gb := gX.below
      have hlow2 := below_later h.low gb
      exact ⟨_, _, _, _, _, _, _, _, _, _, _, _, _, _, _, _, _, _, _, _, _, _, _, _, _, _, _, _, _, _, _, _, _, _, _, _, _, _, _, _, _, _, _, _, _, _, _, _, _, _, _, _, _, _, _, q90, q97, q105, rfl, ⟨hlow2, h.km.later gb, h.kt.later gb, h.h0, h.h1, h.h2, h.h3, h.h4, h.h5, h.h6, h.h7, h.h8, h.h9, h.h10, h.h11, h.h12, h.h13, h.h14, h.h15, h.h16, h.h17, h.h18, h.h19, h.h20, h.h21, h.h22, h.h23, h.h24, h.h25, h.h26, h.h27, h.h28, h.h29, h.h30, h.h31, h.h32, h.h33, h.h34, h.h35, fun e => ⟨(h.h36 e).1, (h.h36 e).2.later gb⟩, h.h37, h.h38, h.h39, h.h40, h.h41, h.h42, fun e => ⟨(h.h43 e).1, (h.h43 e).2.later gb⟩, fun _ => rfl, h.h45, h.h46, h.h47, h.h48, h.h49, h.h50, fun e => ⟨(h.h51 e).1, (h.h51 e).2.later gb⟩, h.h52, h.h53, h.h54⟩⟩
    | 45, _, hL, ho, hp =>
      simp only [List.getElem?_toArray, List.getElem?_cons_zero, List.getElem?_cons_succ, Option.some.injEq] at ho
      subst ho
      have p39 : L 39 = true := hp ⟨39, .data⟩ (by simp) rfl
      obtain rfl := h.h39 p39
      have p44 : L 44 = true := hp ⟨44, .data⟩ (by simp) rfl
      obtain rfl := h.h44 p44
      rw [if_pos (by rfl)]
      go_simp
      exact ⟨_, _, _, _, _, _, _, _, _, _, _, _, _, _, _, _, _, _, _, _, _, _, _, _, _, _, _, _, _, _, _, _, _, _, _, _, _, _, _, _, _, _, _, _, _, _, _, _, _, _, _, _, _, _, _, q90, q97, q105, rfl, ⟨h.low, h.km, h.kt, h.h0, h.h1, h.h2, h.h3, h.h4, h.h5, h.h6, h.h7, h.h8, h.h9, h.h10, h.h11, h.h12, h.h13, h.h14, h.h15, h.h16, h.h17, h.h18, h.h19, h.h20, h.h21, h.h22, h.h23, h.h24, h.h25, h.h26, h.h27, h.h28, h.h29, h.h30, h.h31, h.h32, h.h33, h.h34, h.h35, h.h36, h.h37, h.h38, h.h39, h.h40, h.h41, h.h42, h.h43, h.h44, fun _ => rfl, h.h46, h.h47, h.h48, h.h49, h.h50, h.h51, h.h52, h.h53, h.h54⟩⟩
    | 46, _, hL, ho, hp =>
      simp only [List.getElem?_toArray, List.getElem?_cons_zero, List.getElem?_cons_succ, Option.some.injEq] at ho
      subst ho
      have p45 : L 45 = true := hp ⟨45, .data⟩ (by simp) rfl
      obtain rfl := h.h45 p45
      rw [if_pos (by rfl)]
      go_simp
      exact ⟨_, _, _, _, _, _, _, _, _, _, _, _, _, _, _, _, _, _, _, _, _, _, _, _, _, _, _, _, _, _, _, _, _, _, _, _, _, _, _, _, _, _, _, _, _, _, _, _, _, _, _, _, _, _, _, q90, q97, q105, rfl, ⟨h.low, h.km, h.kt, h.h0, h.h1, h.h2, h.h3, h.h4, h.h5, h.h6, h.h7, h.h8, h.h9, h.h10, h.h11, h.h12, h.h13, h.h14, h.h15, h.h16, h.h17, h.h18, h.h19, h.h20, h.h21, h.h22, h.h23, h.h24, h.h25, h.h26, h.h27, h.h28, h.h29, h.h30, h.h31, h.h32, h.h33, h.h34, h.h35, h.h36, h.h37, h.h38, h.h39, h.h40, h.h41, h.h42, h.h43, h.h44, h.h45, fun _ => rfl, h.h47, h.h48, h.h49, h.h50, h.h51, h.h52, h.h53, h.h54⟩⟩
    | 47, _, hL, ho, hp =>
      simp only [List.getElem?_toArray, List.getElem?_cons_zero, List.getElem?_cons_succ, Option.some.injEq] at ho
      subst ho
      have p46 : L 46 = true := hp ⟨46, .guard⟩ (by simp) rfl
      obtain rfl := h.h46 p46
      rw [if_pos (by rfl)]
      go_simp
      exact ⟨_, _, _, _, _, _, _, _, _, _, _, _, _, _, _, _, _, _, _, _, _, _, _, _, _, _, _, _, _, _, _, _, _, _, _, _, _, _, _, _, _, _, _, _, _, _, _, _, _, _, _, _, _, _, _, q90, q97, q105, rfl, ⟨h.low, h.km, h.kt, h.h0, h.h1, h.h2, h.h3, h.h4, h.h5, h.h6, h.h7, h.h8, h.h9, h.h10, h.h11, h.h12, h.h13, h.h14, h.h15, h.h16, h.h17, h.h18, h.h19, h.h20, h.h21, h.h22, h.h23, h.h24, h.h25, h.h26, h.h27, h.h28, h.h29, h.h30, h.h31, h.h32, h.h33, h.h34, h.h35, h.h36, h.h37, h.h38, h.h39, h.h40, h.h41, h.h42, h.h43, h.h44, h.h45, h.h46, fun _ => rfl, h.h48, h.h49, h.h50, h.h51, h.h52, h.h53, h.h54⟩⟩
    | 48, _, hL, ho, hp =>
      simp only [List.getElem?_toArray, List.getElem?_cons_zero, List.getElem?_cons_succ, Option.some.injEq] at ho
      subst ho
      have p46 : L 46 = true := hp ⟨46, .guard⟩ (by simp) rfl
      obtain rfl := h.h46 p46
      have p47 : L 47 = true := hp ⟨47, .data⟩ (by simp) rfl
      obtain rfl := h.h47 p47
      rw [if_pos (by rfl)]
      go_simp
      exact ⟨_, _, _, _, _, _, _, _, _, _, _, _, _, _, _, _, _, _, _, _, _, _, _, _, _, _, _, _, _, _, _, _, _, _, _, _, _, _, _, _, _, _, _, _, _, _, _, _, _, _, _, _, _, _, _, q90, q97, q105, rfl, ⟨h.low, h.km, h.kt, h.h0, h.h1, h.h2, h.h3, h.h4, h.h5, h.h6, h.h7, h.h8, h.h9, h.h10, h.h11, h.h12, h.h13, h.h14, h.h15, h.h16, h.h17, h.h18, h.h19, h.h20, h.h21, h.h22, h.h23, h.h24, h.h25, h.h26, h.h27, h.h28, h.h29, h.h30, h.h31, h.h32, h.h33, h.h34, h.h35, h.h36, h.h37, h.h38, h.h39, h.h40, h.h41, h.h42, h.h43, h.h44, h.h45, h.h46, h.h47, fun _ => rfl, h.h49, h.h50, h.h51, h.h52, h.h53, h.h54⟩⟩
    | 49, _, hL, ho, hp =>
      simp only [List.getElem?_toArray, List.getElem?_cons_zero, List.getElem?_cons_succ, Option.some.injEq] at ho
      subst ho
      have p46 : L 46 = true := hp ⟨46, .guard⟩ (by simp) rfl
      obtain rfl := h.h46 p46
      have p48 : L 48 = true := hp ⟨48, .data⟩ (by simp) rfl
      obtain rfl := h.h48 p48
      rw [if_pos (by rfl)]
      have ckm6 := h.km.cell 6
      have lkm := h.km.lt
      simp only [List.getElem?_toArray, List.getElem?_cons_zero, List.getElem?_cons_succ] at ckm6
      go_simp
      exact ⟨_, _, _, _, _, _, _, _, _, _, _, _, _, _, _, _, _, _, _, _, _, _, _, _, _, _, _, _, _, _, _, _, _, _, _, _, _, _, _, _, _, _, _, _, _, _, _, _, _, _, _, _, _, _, _, q90, q97, q105, rfl, ⟨h.low, h.km, h.kt, h.h0, h.h1, h.h2, h.h3, h.h4, h.h5, h.h6, h.h7, h.h8, h.h9, h.h10, h.h11, h.h12, h.h13, h.h14, h.h15, h.h16, h.h17, h.h18, h.h19, h.h20, h.h21, h.h22, h.h23, h.h24, h.h25, h.h26, h.h27, h.h28, h.h29, h.h30, h.h31, h.h32, h.h33, h.h34, h.h35, h.h36, h.h37, h.h38, h.h39, h.h40, h.h41, h.h42, h.h43, h.h44, h.h45, h.h46, h.h47, h.h48, fun _ => rfl, h.h50, h.h51, h.h52, h.h53, h.h54⟩⟩
    | 50, _, hL, ho, hp =>
      simp only [List.getElem?_toArray, List.getElem?_cons_zero, List.getElem?_cons_succ, Option.some.injEq] at ho
      subst ho
      have p46 : L 46 = true := hp ⟨46, .guard⟩ (by simp) rfl
      obtain rfl := h.h46 p46
      rw [if_pos (by rfl)]
      go_simp
      go_at_call 46
      (with_reducible refine (HSM.out 2 _).mono ?_)
      rintro e X2 ⟨rfl, gX⟩
      have gb := gX.below
      have hlow2 := below_later h.low gb
      exact ⟨_, _, _, _, _, _, _, _, _, _, _, _, _, _, _, _, _, _, _, _, _, _, _, _, _, _, _, _, _, _, _, _, _, _, _, _, _, _, _, _, _, _, _, _, _, _, _, _, _, _, _, _, _, _, _, q90, q97, q105, rfl, ⟨hlow2, h.km.later gb, h.kt.later gb, h.h0, h.h1, h.h2, h.h3, h.h4, h.h5, h.h6, h.h7, h.h8, h.h9, h.h10, h.h11, h.h12, h.h13, h.h14, h.h15, h.h16, h.h17, h.h18, h.h19, h.h20, h.h21, h.h22, h.h23, h.h24, h.h25, h.h26, h.h27, h.h28, h.h29, h.h30, h.h31, h.h32, h.h33, h.h34, h.h35, fun e => ⟨(h.h36 e).1, (h.h36 e).2.later gb⟩, h.h37, h.h38, h.h39, h.h40, h.h41, h.h42, fun e => ⟨(h.h43 e).1, (h.h43 e).2.later gb⟩, h.h44, h.h45, h.h46, h.h47, h.h48, h.h49, fun _ => rfl, fun e => ⟨(h.h51 e).1, (h.h51 e).2.later gb⟩, h.h52, h.h53, h.h54⟩⟩
    | 51, _, hL, ho, hp =>
      simp only [List.getElem?_toArray, List.getElem?_cons_zero, List.getElem?_cons_succ, Option.some.injEq] at ho
      subst ho
      have p46 : L 46 = true := hp ⟨46, .guard⟩ (by simp) rfl
      obtain rfl := h.h46 p46
      have p50 : L 50 = true := hp ⟨50, .data⟩ (by simp) rfl
      obtain rfl := h.h50 p50
      rw [if_pos (by rfl)]
      go_simp
      have gb := (Gr.alloc X (.cells #[.int .u64 2, .int .u64 2] 53)).below
      have hlow2 := below_later h.low gb
      exact ⟨_, _, _, _, _, _, _, _, _, _, _, _, _, _, _, _, _, _, _, _, _, _, _, _, _, _, _, _, _, _, _, _, _, _, _, _, _, _, _, _, _, _, _, _, _, _, _, _, _, _, _, _, _, _, _, q90, q97, X.heap.size, rfl, ⟨hlow2, h.km.later gb, h.kt.later gb, h.h0, h.h1, h.h2, h.h3, h.h4, h.h5, h.h6, h.h7, h.h8, h.h9, h.h10, h.h11, h.h12, h.h13, h.h14, h.h15, h.h16, h.h17, h.h18, h.h19, h.h20, h.h21, h.h22, h.h23, h.h24, h.h25, h.h26, h.h27, h.h28, h.h29, h.h30, h.h31, h.h32, h.h33, h.h34, h.h35, fun e => ⟨(h.h36 e).1, (h.h36 e).2.later gb⟩, h.h37, h.h38, h.h39, h.h40, h.h41, h.h42, fun e => ⟨(h.h43 e).1, (h.h43 e).2.later gb⟩, h.h44, h.h45, h.h46, h.h47, h.h48, h.h49, h.h50, fun _ => ⟨rfl, SegP.of_blk (l := [(2, 2)]) (cap := 1) (Blk.new _ _ _) (by simp) (by decide) rfl⟩, h.h52, h.h53, h.h54⟩⟩
    | 52, _, hL, ho, hp =>
      simp only [List.getElem?_toArray, List.getElem?_cons_zero, List.getElem?_cons_succ, Option.some.injEq] at ho
      subst ho
      have p46 : L 46 = true := hp ⟨46, .guard⟩ (by simp) rfl
      obtain rfl := h.h46 p46
      have p49 : L 49 = true := hp ⟨49, .data⟩ (by simp) rfl
      obtain rfl := h.h49 p49
      have p51 : L 51 = true := hp ⟨51, .data⟩ (by simp) rfl
      obtain ⟨rfl, hd51⟩ := h.h51 p51
      rw [if_pos (by rfl)]
      go_simp
      go_at_call 28
      (with_reducible refine (HEQ.out _ _ [(2, 2)] X (HrC.out _ h.low) hd51).mono ?_)
      rintro e X2 ⟨rfl, gX⟩
      have gb := gX.below
      have hlow2 := below_later h.low gb
      exact ⟨_, _, _, _, _, _, _, _, _, _, _, _, _, _, _, _, _, _, _, _, _, _, _, _, _, _, _, _, _, _, _, _, _, _, _, _, _, _, _, _, _, _, _, _, _, _, _, _, _, _, _, _, _, _, _, q90, q97, q105, rfl, ⟨hlow2, h.km.later gb, h.kt.later gb, h.h0, h.h1, h.h2, h.h3, h.h4, h.h5, h.h6, h.h7, h.h8, h.h9, h.h10, h.h11, h.h12, h.h13, h.h14, h.h15, h.h16, h.h17, h.h18, h.h19, h.h20, h.h21, h.h22, h.h23, h.h24, h.h25, h.h26, h.h27, h.h28, h.h29, h.h30, h.h31, h.h32, h.h33, h.h34, h.h35, fun e => ⟨(h.h36 e).1, (h.h36 e).2.later gb⟩, h.h37, h.h38, h.h39, h.h40, h.h41, h.h42, fun e => ⟨(h.h43 e).1, (h.h43 e).2.later gb⟩, h.h44, h.h45, h.h46, h.h47, h.h48, h.h49, h.h50, fun e => ⟨(h.h51 e).1, (h.h51 e).2.later gb⟩, fun _ => rfl, h.h53, h.h54⟩⟩
    | 53, _, hL, ho, hp =>
      simp only [List.getElem?_toArray, List.getElem?_cons_zero, List.getElem?_cons_succ, Option.some.injEq] at ho
      subst ho
      have p46 : L 46 = true := hp ⟨46, .data⟩ (by simp) rfl
      obtain rfl := h.h46 p46
      have p52 : L 52 = true := hp ⟨52, .data⟩ (by simp) rfl
      obtain rfl := h.h52 p52
      rw [if_pos (by rfl)]
      go_simp
      exact ⟨_, _, _, _, _, _, _, _, _, _, _, _, _, _, _, _, _, _, _, _, _, _, _, _, _, _, _, _, _, _, _, _, _, _, _, _, _, _, _, _, _, _, _, _, _, _, _, _, _, _, _, _, _, _, _, q90, q97, q105, rfl, ⟨h.low, h.km, h.kt, h.h0, h.h1, h.h2, h.h3, h.h4, h.h5, h.h6, h.h7, h.h8, h.h9, h.h10, h.h11, h.h12, h.h13, h.h14, h.h15, h.h16, h.h17, h.h18, h.h19, h.h20, h.h21, h.h22, h.h23, h.h24, h.h25, h.h26, h.h27, h.h28, h.h29, h.h30, h.h31, h.h32, h.h33, h.h34, h.h35, h.h36, h.h37, h.h38, h.h39, h.h40, h.h41, h.h42, h.h43, h.h44, h.h45, h.h46, h.h47, h.h48, h.h49, h.h50, h.h51, h.h52, fun _ => rfl, h.h54⟩⟩
    | 54, _, hL, ho, hp =>
      simp only [List.getElem?_toArray, List.getElem?_cons_zero, List.getElem?_cons_succ, Option.some.injEq] at ho
      subst ho
      have p53 : L 53 = true := hp ⟨53, .phase⟩ (by simp) rfl
      obtain rfl := h.h53 p53
      rw [if_pos (by rfl)]
      go_simp
      exact ⟨_, _, _, _, _, _, _, _, _, _, _, _, _, _, _, _, _, _, _, _, _, _, _, _, _, _, _, _, _, _, _, _, _, _, _, _, _, _, _, _, _, _, _, _, _, _, _, _, _, _, _, _, _, _, _, q90, q97, q105, rfl, ⟨h.low, h.km, h.kt, h.h0, h.h1, h.h2, h.h3, h.h4, h.h5, h.h6, h.h7, h.h8, h.h9, h.h10, h.h11, h.h12, h.h13, h.h14, h.h15, h.h16, h.h17, h.h18, h.h19, h.h20, h.h21, h.h22, h.h23, h.h24, h.h25, h.h26, h.h27, h.h28, h.h29, h.h30, h.h31, h.h32, h.h33, h.h34, h.h35, h.h36, h.h37, h.h38, h.h39, h.h40, h.h41, h.h42, h.h43, h.h44, h.h45, h.h46, h.h47, h.h48, h.h49, h.h50, h.h51, h.h52, h.h53, fun _ => rfl⟩⟩
end Go.Proofs.Ytlhigfphfbmbjaa


/- wakes of stage 12's laws. -/
namespace Go.Proofs.Kit
open Go.RowKit
abbrev wkT : Tr := ([(1, 1), (2, 2)], [(3, 3)])
abbrev wkU : Tr := ([(3, 3)], [(1, 1)])
theorem wk_all : allP wkT wkU = [(1, 1), (2, 2), (3, 3)] := by
  simp [allP, mrgs, rows4, mrg, tog, lt2]
theorem wk_one : oneT wkT ∧ oneT wkU := by decide
theorem wk_out2 : outT false wkT wkU 2 = ([(2, 2)], [(1, 1)]) := by
  unfold outT
  rw [wk_all]
  decide
theorem wk_out3 : outT false wkT wkU 3 = ([(2, 2), (3, 3)], [(1, 1)]) := by
  unfold outT
  rw [wk_all]
  decide
theorem wk_ok (k : Nat) (hk : k ≤ 3) : okM wkT wkU (outT false wkT wkU k) false (k : Int) := ⟨wk_one, by rw [wk_all]; simp; omega, by simp⟩
theorem wk_left (k : Nat) (hk : k ≤ 3) : leftM wkT wkU (outT false wkT wkU k) false (k : Int) = 3 - (k : Int) := by
  rw [leftM, if_pos (wk_ok k hk), wk_all]
  rfl
end Go.Proofs.Kit
namespace Go.Proofs.Ytlhigfphfbmbjaa
open Go.RowKit Go.Proofs.Kit Go.Shelf
set_option maxRecDepth 100000 in
set_option maxHeartbeats 1000000 in
theorem same12_any (n : Int) (w : World) : Calls Try.prog 46 #[.int .u64 n] w fun e w' => e = .returned (PV n n) ∧ Gr w w' := by
  go_enter Try.func46, Try.ntmps46
  go_wp2
  exact bodyPost_ret (v := PV n n) (by simp [results, Try.results46, go_sem]) rfl ⟨rfl, Gr.alloc _ _⟩
theorem wk_sh : Sh wkT wkU := by unfold Sh; decide
end Go.Proofs.Ytlhigfphfbmbjaa


/- wakes of stage 12's laws. -/
namespace Go.Proofs.Ytlhigfphfbmbjaa
open Go.RowKit Go.Proofs.Kit Go.Shelf
set_option maxRecDepth 100000 in
set_option maxHeartbeats 16000000 in
theorem wakes12_true (w : World) : Calls Try.prog 10 #[] w fun e w' => e = .returned (.bool true) ∧ Below w.heap.size w w' := by
  have HSM := Lib.hid (fun (n : Int) W => same12_any n W)
  go_enter Try.func10, Try.ntmps10
  go_wp2_with fail
  refine (HSM.out 1 _).mono ?_
  rintro e w1 ⟨rfl, g1⟩
  go_wp2_with fail
  refine (HSM.out 2 _).mono ?_
  rintro e w2 ⟨rfl, g2⟩
  have L2 := Lib.hid (g1.trans g2)
  clear g1 g2
  go_wp2_with fail
  obtain ⟨W2, hW2⟩ : ∃ W2, W2 = w2.alloc (.cells #[.int .u64 1, .int .u64 1, .int .u64 2, .int .u64 2] 53) := ⟨_, rfl⟩
  have A2 := Lib.hid (show Blk W2 w2.heap.size #[.int .u64 1, .int .u64 1, .int .u64 2, .int .u64 2] 53 by rw [hW2]; exact Blk.new _ _ _)
  have L2' := Lib.hid (show Gr w W2 by rw [hW2]; exact L2.out.trans (Gr.alloc _ _))
  rw [← hW2]
  clear hW2
  refine (HSM.out 3 _).mono ?_
  rintro e w3 ⟨rfl, g3⟩
  have A3 := Lib.hid (A2.out.later g3.below)
  have L3 := Lib.hid (L2'.out.trans g3)
  clear g3
  go_wp2_with fail
  obtain ⟨W3, hW3⟩ : ∃ W3, W3 = (w3.alloc (.cells #[.int .u64 3, .int .u64 3] 53)).alloc (.cells #[.slice (some ⟨w2.heap.size, 0, none⟩) 2 2, .slice (some ⟨w3.heap.size, 0, none⟩) 1 1] 24) := ⟨_, rfl⟩
  have G3 : Gr w3 W3 := by rw [hW3]; exact (Gr.alloc _ _).trans (Gr.alloc _ _)
  have B3 : Blk W3 w3.heap.size #[.int .u64 3, .int .u64 3] 53 := by rw [hW3]; exact (Blk.new _ _ _).alloc _
  have K1 : Blk W3 (w3.heap.size + 1) #[.slice (some ⟨w2.heap.size, 0, none⟩) 2 2, .slice (some ⟨w3.heap.size, 0, none⟩) 1 1] 24 := by
    rw [hW3]
    have := Blk.new (w3.alloc (.cells #[.int .u64 3, .int .u64 3] 53)) #[.slice (some ⟨w2.heap.size, 0, none⟩) 2 2, .slice (some ⟨w3.heap.size, 0, none⟩) 1 1] 24
    simpa using this
  have HT : TR W3 ⟨some ⟨w2.heap.size, 0, none⟩, 2, 2, some ⟨w3.heap.size, 0, none⟩, 1, 1⟩ wkT := ⟨SegP.of_blk (l := [(1, 1), (2, 2)]) (cap := 2) (A3.out.later G3.below) (by simp) (by decide) rfl, SegP.of_blk (l := [(3, 3)]) (cap := 1) B3 (by simp) (by decide) rfl⟩
  have LW3 := Lib.hid (L3.out.trans G3)
  have HK1 := Lib.hid K1
  have HTT := Lib.hid HT
  rw [← hW3]
  clear hW3 G3 B3 K1 HT A2 A3 L2 L2' L3
  refine (HSM.out 3 _).mono ?_
  rintro e w4 ⟨rfl, g4⟩
  have HK1 := Lib.hid (HK1.out.later g4.below)
  have HTT := Lib.hid (HTT.out.later g4.below)
  have LW4 := Lib.hid (LW3.out.trans g4)
  clear g4 LW3
  go_wp2_with fail
  obtain ⟨W4, hW4⟩ : ∃ W4, W4 = w4.alloc (.cells #[.int .u64 3, .int .u64 3] 53) := ⟨_, rfl⟩
  have G4 : Gr w4 W4 := by rw [hW4]; exact Gr.alloc _ _
  have B4 : Blk W4 w4.heap.size #[.int .u64 3, .int .u64 3] 53 := by rw [hW4]; exact Blk.new _ _ _
  rw [← hW4]
  clear hW4
  refine (HSM.out 1 _).mono ?_
  rintro e w5 ⟨rfl, g5⟩
  have HB4 := Lib.hid (B4.later g5.below)
  have HK1 := Lib.hid ((HK1.out.later G4.below).later g5.below)
  have HTT := Lib.hid ((HTT.out.later G4.below).later g5.below)
  have LW5 := Lib.hid ((LW4.out.trans G4).trans g5)
  clear G4 B4 g5 LW4
  have d0 := HK1.out.cell 0
  have d1 := HK1.out.cell 1
  have ld := HK1.out.lt
  have ld2 : w3.heap.size < w5.heap.size := Nat.lt_of_succ_lt ld
  simp only [List.getElem?_toArray, List.getElem?_cons_zero, List.getElem?_cons_succ] at d0 d1
  go_wp2_with fail
  obtain ⟨W5, hW5⟩ : ∃ W5, W5 = (w5.alloc (.cells #[.int .u64 1, .int .u64 1] 53)).alloc (.cells #[.slice (some ⟨w4.heap.size, 0, none⟩) 1 1, .slice (some ⟨w5.heap.size, 0, none⟩) 1 1] 24) := ⟨_, rfl⟩
  have G5 : Gr w5 W5 := by rw [hW5]; exact (Gr.alloc _ _).trans (Gr.alloc _ _)
  have B5 : Blk W5 w5.heap.size #[.int .u64 1, .int .u64 1] 53 := by rw [hW5]; exact (Blk.new _ _ _).alloc _
  have HU : TR W5 ⟨some ⟨w4.heap.size, 0, none⟩, 1, 1, some ⟨w5.heap.size, 0, none⟩, 1, 1⟩ wkU := ⟨SegP.of_blk (l := [(3, 3)]) (cap := 1) (HB4.out.later G5.below) (by simp) (by decide) rfl, SegP.of_blk (l := [(1, 1)]) (cap := 1) B5 (by simp) (by decide) rfl⟩
  have LW5 := Lib.hid (LW5.out.trans G5).below
  have HBG := Lib.hid (beginM_any _ _ wkT wkU false W5 (HTT.out.later G5.below) HU wk_sh)
  simp only [Ti.av, Ti.bv] at HBG
  rw [← hW5]
  clear hW5 G5 B5 HU HTT HK1 HB4 d0 d1 ld ld2
  refine HBG.out.mono ?_
  rintro e w6 (⟨⟨_, x6, y6, z6, rfl, hm6⟩, b6⟩ | ⟨⟨hno, rfl⟩, _⟩)
  rotate_left
  · exact absurd wk_one hno
  have LW6 := Lib.hid (below_later LW5.out b6)
  obtain ⟨xa, xn, xc, xa', xn', xc'⟩ := x6
  obtain ⟨ya, yn, yc, ya', yn', yc'⟩ := y6
  obtain ⟨za, zn, zc, za', zn', zc'⟩ := z6
  have HM6 := Lib.hid hm6
  simp only [mgV, Ti.av, Ti.bv]
  clear b6 hm6 LW5 HBG
  go_wp2_with fail
  have hS7 := fun W (hb : Below w6.heap.size w6 W) => stepM_ok ⟨xa, xn, xc, xa', xn', xc'⟩ ⟨ya, yn, yc, ya', yn', yc'⟩ ⟨za, zn, zc, za', zn', zc'⟩ wkT wkU ([], []) false 0 W (HM6.out.x.tr.later hb) (HM6.out.y.tr.later hb) (HM6.out.z.tr.later hb) wk_sh 2 (wk_ok 0 (by decide)) (by decide) 2 (by have := wk_left 0 (by decide); rw [outT_zero] at this; rw [show ((0 : Nat) : Int) = 0 from rfl] at this; rw [this]; rfl)
  simp only [mgV, Ti.av, Ti.bv] at hS7
  refine (hS7 _ (Gr.alloc _ _).below).mono ?_
  rintro e w7 ⟨x7, y7, z7, rfl, hm7, b7⟩
  have LW7 := Lib.hid (below_later (below_later LW6.out (Gr.alloc _ _).below) b7)
  obtain ⟨pa, pn, pc, pa', pn', pc'⟩ := x7
  obtain ⟨qa, qn, qc, qa', qn', qc'⟩ := y7
  obtain ⟨ra, rn, rc, ra', rn', rc'⟩ := z7
  have hm7' : OwnM 53 _ w7 _ _ _ wkT wkU (outT false wkT wkU 2) := hm7
  have HM7 := Lib.hid hm7'
  simp only [show (((2 : Nat) : Int)) = 2 from rfl]
  clear b7 hm7 hm7' LW6 hS7 HM6
  go_wp2_with fail
  have K5 := Lib.hid (Blk.new w7 #[.slice pa pn pc, .slice pa' pn' pc', .slice qa qn qc, .slice qa' qn' qc', .bool false, .int .i64 2, .slice ra rn rc, .slice ra' rn' rc'] 26)
  have hS8 := fun W (hb : Below w7.heap.size w7 W) => stepM_ok ⟨pa, pn, pc, pa', pn', pc'⟩ ⟨qa, qn, qc, qa', qn', qc'⟩ ⟨ra, rn, rc, ra', rn', rc'⟩ wkT wkU (outT false wkT wkU 2) false 2 W (HM7.out.x.tr.later hb) (HM7.out.y.tr.later hb) (HM7.out.z.tr.later hb) wk_sh 9 (wk_ok 2 (by decide)) (by decide) 1 (by have := wk_left 2 (by decide); rw [show ((2 : Nat) : Int) = 2 from rfl] at this; rw [this]; rfl)
  simp only [mgV, Ti.av, Ti.bv] at hS8
  have gA := (Gr.alloc w7 (.cells #[.slice pa pn pc, .slice pa' pn' pc', .slice qa qn qc, .slice qa' qn' qc', .bool false, .int .i64 2, .slice ra rn rc, .slice ra' rn' rc'] 26)).below
  refine (hS8 _ gA).mono ?_
  rintro e w8 ⟨x8, y8, z8, rfl, hm8, b8⟩
  have LW8 := Lib.hid (below_later (below_later LW7.out gA) b8)
  have K5 := Lib.hid (K5.out.later b8)
  have HM7 := Lib.hid ((HM7.out.later gA).later b8)
  obtain ⟨ua, un, uc, ua', un', uc'⟩ := x8
  obtain ⟨va, vn, vc, va', vn', vc'⟩ := y8
  obtain ⟨sa, sn, sc, sa', sn', sc'⟩ := z8
  have hm8' : OwnM 53 _ w8 _ _ _ wkT wkU (outT false wkT wkU 3) := hm8
  have HM8 := Lib.hid hm8'
  simp only [show (((1 : Nat) : Int)) = 1 from rfl, show ((2 : Int) + 1) = 3 from rfl]
  clear b8 hm8 hm8' LW7 hS8 gA
  go_wp2_with fail
  have gB := (Gr.alloc w8 (.cells #[.slice ua un uc, .slice ua' un' uc', .slice va vn vc, .slice va' vn' vc', .bool false, .int .i64 3, .slice sa sn sc, .slice sa' sn' sc'] 26)).below
  have hE9 := endM_any ⟨ua, un, uc, ua', un', uc'⟩ ⟨va, vn, vc, va', vn', vc'⟩ ⟨sa, sn, sc, sa', sn', sc'⟩ wkT wkU (outT false wkT wkU 3) false 3 _ (HM8.out.x.tr.later gB) (HM8.out.y.tr.later gB) (HM8.out.z.tr.later gB) wk_sh (by rw [wk_out3]; decide)
  have he9 : endE wkT wkU (outT false wkT wkU 3) false 3 = 0 := by
    have h1 := wk_left 3 (by decide)
    have h2 := wk_ok 3 (by decide)
    rw [show ((3 : Nat) : Int) = 3 from rfl] at h1 h2
    rw [endE, if_pos h2, h1]
    rfl
  rw [he9, if_pos rfl] at hE9
  simp only [mgV, Ti.av, Ti.bv] at hE9
  refine hE9.mono ?_
  rintro e w9 ⟨⟨ta, tn, tc, ta', tn', tc'⟩, rfl, hz9, b9⟩
  have LW9 := Lib.hid (below_later (below_later LW8.out gB) b9)
  have K5 := Lib.hid ((K5.out.later gB).later b9)
  have HM7 := Lib.hid ((HM7.out.later gB).later b9)
  have HZ9 := Lib.hid (show TR w9 _ (outT false wkT wkU 3) from hz9.tr)
  obtain ⟨⟨m0, m1, m2, m3, m4, m5, m6, m7⟩, lm⟩ := K5.out.all8
  clear gB hE9 he9 hz9 b9 LW8 HM8
  go_wp2_with fail
  have KT := Lib.hid (Blk.new w9 #[.slice ta tn tc, .slice ta' tn' tc'] 24)
  have gC := (Gr.alloc w9 (.cells #[.slice ta tn tc, .slice ta' tn' tc'] 24)).below
  have hE10 := endM_any ⟨pa, pn, pc, pa', pn', pc'⟩ ⟨qa, qn, qc, qa', qn', qc'⟩ ⟨ra, rn, rc, ra', rn', rc'⟩ wkT wkU (outT false wkT wkU 2) false 2 _ (HM7.out.x.tr.later gC) (HM7.out.y.tr.later gC) (HM7.out.z.tr.later gC) wk_sh (by rw [wk_out2]; decide)
  have he10 : endE wkT wkU (outT false wkT wkU 2) false 2 = 221 := by
    have h1 := wk_left 2 (by decide)
    have h2 := wk_ok 2 (by decide)
    rw [show ((2 : Nat) : Int) = 2 from rfl] at h1 h2
    rw [endE, if_pos h2, h1]
    rfl
  rw [he10, if_neg (by decide)] at hE10
  simp only [mgV, Ti.av, Ti.bv] at hE10
  refine hE10.mono ?_
  rintro e w10 ⟨⟨na, nn, nc, na', nn', nc'⟩, rfl, _, b10⟩
  have LW10 := Lib.hid (below_later (below_later LW9.out gC) b10)
  have K5 := Lib.hid ((K5.out.later gC).later b10)
  have KT := Lib.hid (KT.out.later b10)
  have HM7 := Lib.hid ((HM7.out.later gC).later b10)
  have HZ9 := Lib.hid ((HZ9.out.later gC).later b10)
  clear gC hE10 he10 b10 LW9 m0 m1 m2 m3 m4 m5 m6 m7 lm
  go_wp2_with fail
  obtain ⟨WF, hWF⟩ : ∃ WF, WF = w10.alloc (.cells #[.slice na nn nc, .slice na' nn' nc'] 24) := ⟨_, rfl⟩
  have gD : Below w10.heap.size w10 WF := by rw [hWF]; exact (Gr.alloc _ _).below
  rw [← hWF]
  clear hWF
  have HLFT := Lib.hid (fun W (hb : Below w10.heap.size w10 W) => leftS_any ⟨pa, pn, pc, pa', pn', pc'⟩ ⟨qa, qn, qc, qa', qn', qc'⟩ ⟨ra, rn, rc, ra', rn', rc'⟩ wkT wkU (outT false wkT wkU 2) false 2 W (HM7.out.x.tr.later hb) (HM7.out.y.tr.later hb) (HM7.out.z.tr.later hb) wk_sh)
  have hlf : leftM wkT wkU (outT false wkT wkU 2) false 2 = 1 := by
    have h1 := wk_left 2 (by decide)
    rw [show ((2 : Nat) : Int) = 2 from rfl] at h1
    rw [h1]
    rfl
  rw [hlf] at HLFT
  simp only [mgV, Ti.av, Ti.bv] at HLFT
  have HEQ : Hid (∀ (v1 v2 : Value) (l : List Pr) (X : World), SegP X v1 l → SegP X v2 l → Calls Try.prog 28 #[v1, v2] X fun e w' => e = .returned (.bool true) ∧ Gr X w') := Lib.hid (fun v1 v2 l X h1 h2 => by
    have := equalP_seg v1 v2 l l X h1 h2
    simpa using this)
  have HZ2 := HZ9.out
  have HM2 := HM7.out.z.tr
  rw [wk_out3] at HZ2
  rw [wk_out2] at HM2
  have hbw : ∀ W, Below WF.heap.size WF W → Below w10.heap.size w10 W := fun W hb => below_later gD hb
  have KMF := K5.out.later gD
  have KTF := (KT.out).later gD
  have LWF := Lib.hid (below_later LW10.out gD)
  refine WK_region WF w7.heap.size w9.heap.size _ _ _ _ _ _ _ _ _ _ _ _ _ _ _ _ _ _ _ _ _ _ _ _ _ _ _ _ _ _ _ _ _ _ _ _ _ _ _ _ _ _ _ _ _ _ _ _ _ _ _ _ _ WF _ rfl (Below.refl _ _) KMF KTF ⟨_, _, _, _, _, _, _, _, _, rfl, rfl, rfl⟩ (Lib.hid (fun W hb => HLFT.out W (hbw W hb))) HSM HEQ (Lib.hid (fun W hb => HZ2.a.later (hbw W hb))) (Lib.hid (fun W hb => HZ2.b.later (hbw W hb))) (Lib.hid (fun W hb => HM2.a.later (hbw W hb))) ?_
  intro t0 t54 t55 t56 t57 t58 t59 t60 t61 t62 t63 t64 t65 t66 t67 t68 t69 t70 t71 t72 t73 t74 t75 t76 t77 t78 t79 t80 t81 t82 t83 t84 t85 t86 t87 t88 t89 t90 t91 t92 t93 t94 t95 t96 t97 t98 t99 t100 t101 t102 t103 t104 t105 t106 t107 X h0 hX
  subst h0
  have LX := below_later LWF.out hX
  clear KMF KTF HZ2 HM2 hbw hX gD HEQ hlf HLFT
  go_wp2
  go_ret
  exact ⟨rfl, LX⟩
end Go.Proofs.Ytlhigfphfbmbjaa

