/- MergeEnds' first region: both tiers in memory of the call's own, by one invariant (tools/gen_m19.py). -/
import Derived.Test.YtlhigfphfbmbjaaMD
namespace Go.Proofs.Ytlhigfphfbmbjaa
open Go.RowKit Go.Proofs.Kit Go.Shelf
theorem ltn {w : World} {b c B : Nat} {vs : Array Value} {t : TypeId} (_ : Blk w b vs t) (hc : B ≤ c) (hb : b < B) : b ≠ c := by omega
structure MEI (w0 : World) (bx by1 : Nat) (x y : Ti) (t u : Tr) (o : Bool) (L : Nat → Bool) (w : World) (t7 t8 t20 t21 t22 t23 : Value) (fo : Option Addr) (fn : Nat) (fc : Nat) (fp : Option Addr) (fq : Nat) (fr : Nat) (ko : Option Addr) (kn : Nat) (kc : Nat) (kp : Option Addr) (kq : Nat) (kr : Nat) (b7 : Nat) (b8 : Nat) : Prop where
  low : Below w0.heap.size w0 w
  kx : Blk w bx #[x.av, x.bv] 24
  ky : Blk w by1 #[y.av, y.bv] 24
  h0 : L 0 = true → t20 = .agg #[x.av, x.bv]
  h1 : L 1 = true → t21 = .agg #[.slice fo fn fc, .slice fp fq fr] ∧ OwnQ 53 w0.heap.size w ⟨fo, fn, fc, fp, fq, fr⟩ (few24 t)
  h2 : L 2 = true → t22 = .agg #[y.av, y.bv]
  h3 : L 3 = true → t23 = .agg #[.slice ko kn kc, .slice kp kq kr] ∧ OwnQ 53 w0.heap.size w ⟨ko, kn, kc, kp, kq, kr⟩ (few24 u)
  h4 : L 4 = true → t7 = .pointer (some ⟨b7, 0, none⟩) ∧ w0.heap.size ≤ b7
  z4 : L 4 = true → L 6 = false → Blk w b7 #[.slice none 0 0, .slice none 0 0] 24
  h5 : L 5 = true → t8 = .pointer (some ⟨b8, 0, none⟩) ∧ w0.heap.size ≤ b8
  z5 : L 5 = true → L 7 = false → Blk w b8 #[.slice none 0 0, .slice none 0 0] 24
  k7 : L 6 = true → Blk w b7 #[.slice fo fn fc, .slice fp fq fr] 24
  k8 : L 7 = true → Blk w b8 #[.slice ko kn kc, .slice kp kq kr] 24
  nb : L 4 = true → L 5 = true → b7 ≠ b8
  s61 : L 6 = true → L 1 = true
  s64 : L 6 = true → L 4 = true
  s73 : L 7 = true → L 3 = true
  s75 : L 7 = true → L 5 = true
def MEV (w0 : World) (bx by1 : Nat) (x y : Ti) (t u : Tr) (o : Bool) (L : Nat → Bool) (a : Act) (X : World) : Prop :=
  ∃ t7 t8 t20 t21 t22 t23 fo fn fc fp fq fr ko kn kc kp kq kr b7 b8, a = { tmps := #[.agg #[x.av, x.bv], .agg #[y.av, y.bv], .bool o, .pointer (some ⟨bx, 0, none⟩), .pointer (some ⟨by1, 0, none⟩), undef, .bool false, t7, t8, undef, undef, undef, undef, undef, undef, undef, undef, undef, .bool true, .bool false, t20, t21, t22, t23, undef, undef, undef, undef, undef, undef, undef, undef, undef, undef, undef, undef, undef, undef, undef, undef, undef, undef, undef, undef, undef, undef, undef, undef, undef, undef, undef, undef, undef, undef, undef, undef, undef, undef, undef, undef, undef, undef, undef, undef, undef, undef, undef, undef, undef, undef, undef, undef, undef, undef, undef, undef, undef, undef, undef, undef, undef, undef, undef, undef, undef, undef, undef, undef, undef, undef, undef, undef, undef], defers := [] } ∧ MEI w0 bx by1 x y t u o L X t7 t8 t20 t21 t22 t23 fo fn fc fp fq fr ko kn kc kp kq kr b7 b8
set_option maxRecDepth 100000 in
set_option maxHeartbeats 16000000 in
theorem ME_region {Q : Exit → Act → World → Prop} (w0 : World) (bx by1 : Nat) (x y : Ti) (t u : Tr) (o : Bool) (W : World) (a : Act) (ha : a = { tmps := #[.agg #[x.av, x.bv], .agg #[y.av, y.bv], .bool o, .pointer (some ⟨bx, 0, none⟩), .pointer (some ⟨by1, 0, none⟩), undef, .bool false, undef, undef, undef, undef, undef, undef, undef, undef, undef, undef, undef, .bool true, .bool false, undef, undef, undef, undef, undef, undef, undef, undef, undef, undef, undef, undef, undef, undef, undef, undef, undef, undef, undef, undef, undef, undef, undef, undef, undef, undef, undef, undef, undef, undef, undef, undef, undef, undef, undef, undef, undef, undef, undef, undef, undef, undef, undef, undef, undef, undef, undef, undef, undef, undef, undef, undef, undef, undef, undef, undef, undef, undef, undef, undef, undef, undef, undef, undef, undef, undef, undef, undef, undef, undef, undef, undef, undef], defers := [] }) (hlow : Below w0.heap.size w0 W) (hkx : Blk W bx #[x.av, x.bv] 24) (hky : Blk W by1 #[y.av, y.bv] 24)
    (hbx : bx < w0.heap.size) (hby : by1 < w0.heap.size) (HX : Hid (∀ W, Below w0.heap.size w0 W → Calls Try.prog 25 #[.agg #[x.av, x.bv]] W fun e w' => ∃ y : Ti, e = .returned (.agg #[y.av, y.bv]) ∧ OwnQ 53 W.heap.size w' y (few24 t) ∧ Below W.heap.size W w'))
    (HY : Hid (∀ W, Below w0.heap.size w0 W → Calls Try.prog 25 #[.agg #[y.av, y.bv]] W fun e w' => ∃ z : Ti, e = .returned (.agg #[z.av, z.bv]) ∧ OwnQ 53 W.heap.size w' z (few24 u) ∧ Below W.heap.size W w'))
    (hQ : ∀ L t7 t8 t20 t21 t22 t23 fo fn fc fp fq fr ko kn kc kp kq kr b7 b8 X, (∀ i, i < 8 → L i = true) → MEI w0 bx by1 x y t u o L X t7 t8 t20 t21 t22 t23 fo fn fc fp fq fr ko kn kc kp kq kr b7 b8 → Q .normal { tmps := #[.agg #[x.av, x.bv], .agg #[y.av, y.bv], .bool o, .pointer (some ⟨bx, 0, none⟩), .pointer (some ⟨by1, 0, none⟩), undef, .bool false, t7, t8, undef, undef, undef, undef, undef, undef, undef, undef, undef, .bool true, .bool false, t20, t21, t22, t23, undef, undef, undef, undef, undef, undef, undef, undef, undef, undef, undef, undef, undef, undef, undef, undef, undef, undef, undef, undef, undef, undef, undef, undef, undef, undef, undef, undef, undef, undef, undef, undef, undef, undef, undef, undef, undef, undef, undef, undef, undef, undef, undef, undef, undef, undef, undef, undef, undef, undef, undef, undef, undef, undef, undef, undef, undef, undef, undef, undef, undef, undef, undef, undef, undef, undef, undef, undef, undef], defers := [] } X) :
    (Code.region 3 #[{ dst := some 20, op := Op.load 24 (Operand.tmp 3), type := 24, pos := "outright.go:17", after := #[], guard := none }, { dst := some 21, op := Op.call { callee := Callee.value (Operand.func 25), args := #[Operand.tmp 20], argTypes := #[24] }, type := 24, pos := "outright.go:17", after := #[{ on := 0, ground := Ground.data }], guard := none }, { dst := some 22, op := Op.load 24 (Operand.tmp 4), type := 24, pos := "outright.go:17", after := #[], guard := none }, { dst := some 23, op := Op.call { callee := Callee.value (Operand.func 25), args := #[Operand.tmp 22], argTypes := #[24] }, type := 24, pos := "outright.go:17", after := #[{ on := 2, ground := Ground.data }, { on := 1, ground := Ground.chain }], guard := none }, { dst := some 7, op := Op.alloc 24, type := 0, pos := "outright.go:17", after := #[], guard := none }, { dst := some 8, op := Op.alloc 24, type := 0, pos := "outright.go:17", after := #[], guard := none }, { dst := none, op := Op.store 24 (Operand.tmp 7) (Operand.tmp 21), type := 0, pos := "outright.go:17", after := #[{ on := 4, ground := Ground.data }, { on := 1, ground := Ground.data }, { on := 3, ground := Ground.chain }, { on := 0, ground := Ground.phase }, { on := 1, ground := Ground.phase }, { on := 2, ground := Ground.textOnly Departure.lateStores }, { on := 3, ground := Ground.textOnly Departure.lateStoresUnsure }, { on := 4, ground := Ground.phase }, { on := 5, ground := Ground.phase }], guard := none }, { dst := none, op := Op.store 24 (Operand.tmp 8) (Operand.tmp 23), type := 0, pos := "outright.go:17", after := #[{ on := 5, ground := Ground.data }, { on := 3, ground := Ground.data }, { on := 6, ground := Ground.chain }, { on := 0, ground := Ground.phase }, { on := 1, ground := Ground.phase }, { on := 2, ground := Ground.phase }, { on := 3, ground := Ground.phase }, { on := 4, ground := Ground.phase }, { on := 5, ground := Ground.phase }, { on := 6, ground := Ground.phase }], guard := none }] true).wp Try.prog Q a W := by
  have hmix := mixed
  refine wp_region_inv hmix (Inv := MEV w0 bx by1 x y t u o) (by kernel_rfl) ?h0 ?hstep ?hdone
  case h0 =>
    subst ha
    exact ⟨undef, undef, undef, undef, undef, undef, none, 0, 0, none, 0, 0, none, 0, 0, none, 0, 0, 0, 0, rfl, ⟨hlow.drew, hkx.drew, hky.drew, nofun, nofun, nofun, nofun, nofun, nofun, nofun, nofun, nofun, nofun, nofun, nofun, nofun, nofun, nofun⟩⟩
  case hdone =>
    rintro L a X ⟨t7, t8, t20, t21, t22, t23, fo, fn, fc, fp, fq, fr, ko, kn, kc, kp, kq, kr, b7, b8, rfl, h⟩ hall
    exact hQ L t7 t8 t20 t21 t22 t23 fo fn fc fp fq fr ko kn kc kp kq kr b7 b8 X hall h
  case hstep =>
    clear hQ ha
    rintro L a X i op ⟨t7, t8, t20, t21, t22, t23, fo, fn, fc, fp, fq, fr, ko, kn, kc, kp, kq, kr, b7, b8, rfl, h⟩ hL ho hp
    have hi : i < 8 := (Array.getElem?_eq_some_iff.1 ho).1
    match i, hi, hL, ho, hp with
    | 0, _, hL, ho, hp =>
      simp only [List.getElem?_toArray, List.getElem?_cons_zero, Option.some.injEq] at ho
      subst ho
      rw [if_pos (by simp [Region.wanted])]
      have ckx0 := h.kx.cell 0
      have ckx1 := h.kx.cell 1
      have lkx := h.kx.lt
      simp only [List.getElem?_toArray, List.getElem?_cons_zero, List.getElem?_cons_succ] at ckx0 ckx1
      go_simp
      exact ⟨_, _, _, _, _, _, fo, fn, fc, fp, fq, fr, ko, kn, kc, kp, kq, kr, b7, b8, rfl, ⟨h.low, h.kx, h.ky, fun _ => rfl, h.h1, h.h2, h.h3, h.h4, h.z4, h.h5, h.z5, h.k7, h.k8, h.nb, h.s61, h.s64, h.s73, h.s75⟩⟩
    | 1, _, hL, ho, hp =>
      simp only [List.getElem?_toArray, List.getElem?_cons_zero, List.getElem?_cons_succ, Option.some.injEq] at ho
      subst ho
      rw [if_pos (by simp [Region.wanted])]
      have p0 : L 0 = true := hp ⟨0, .data⟩ (by simp) rfl
      obtain rfl := h.h0 p0
      go_simp
      go_at_call 25
      (with_reducible refine (HX.out _ h.low).mono ?_)
      rintro e X2 ⟨⟨qo, qn, qc, qp, qq, qr⟩, rfl, hq, gb⟩
      have hsz := h.low.size
      have hlow2 := below_later h.low gb
      exact ⟨_, _, _, _, _, _, qo, qn, qc, qp, qq, qr, ko, kn, kc, kp, kq, kr, b7, b8, rfl, ⟨hlow2, h.kx.later gb, h.ky.later gb, h.h0, fun _ => ⟨rfl, hq.mono hsz⟩, h.h2, fun e => ⟨(h.h3 e).1, (h.h3 e).2.later gb⟩, h.h4, fun e e2 => (h.z4 e e2).later gb, h.h5, fun e e2 => (h.z5 e e2).later gb, fun e => absurd (h.s61 e) (by rw [hL]; decide), fun e => (h.k8 e).later gb, h.nb, fun _ => rfl, h.s64, h.s73, h.s75⟩⟩
    | 2, _, hL, ho, hp =>
      simp only [List.getElem?_toArray, List.getElem?_cons_zero, List.getElem?_cons_succ, Option.some.injEq] at ho
      subst ho
      rw [if_pos (by simp [Region.wanted])]
      have cky0 := h.ky.cell 0
      have cky1 := h.ky.cell 1
      have lky := h.ky.lt
      simp only [List.getElem?_toArray, List.getElem?_cons_zero, List.getElem?_cons_succ] at cky0 cky1
      go_simp
      exact ⟨_, _, _, _, _, _, fo, fn, fc, fp, fq, fr, ko, kn, kc, kp, kq, kr, b7, b8, rfl, ⟨h.low, h.kx, h.ky, h.h0, h.h1, fun _ => rfl, h.h3, h.h4, h.z4, h.h5, h.z5, h.k7, h.k8, h.nb, h.s61, h.s64, h.s73, h.s75⟩⟩
    | 3, _, hL, ho, hp =>
      simp only [List.getElem?_toArray, List.getElem?_cons_zero, List.getElem?_cons_succ, Option.some.injEq] at ho
      subst ho
      rw [if_pos (by simp [Region.wanted])]
      have p2 : L 2 = true := hp ⟨2, .data⟩ (by simp) rfl
      obtain rfl := h.h2 p2
      go_simp
      go_at_call 25
      (with_reducible refine (HY.out _ h.low).mono ?_)
      rintro e X2 ⟨⟨qo, qn, qc, qp, qq, qr⟩, rfl, hq, gb⟩
      have hsz := h.low.size
      have hlow2 := below_later h.low gb
      exact ⟨_, _, _, _, _, _, fo, fn, fc, fp, fq, fr, qo, qn, qc, qp, qq, qr, b7, b8, rfl, ⟨hlow2, h.kx.later gb, h.ky.later gb, h.h0, fun e => ⟨(h.h1 e).1, (h.h1 e).2.later gb⟩, h.h2, fun _ => ⟨rfl, hq.mono hsz⟩, h.h4, fun e e2 => (h.z4 e e2).later gb, h.h5, fun e e2 => (h.z5 e e2).later gb, fun e => (h.k7 e).later gb, fun e => absurd (h.s73 e) (by rw [hL]; decide), h.nb, h.s61, h.s64, fun _ => rfl, h.s75⟩⟩
    | 4, _, hL, ho, hp =>
      simp only [List.getElem?_toArray, List.getElem?_cons_zero, List.getElem?_cons_succ, Option.some.injEq] at ho
      subst ho
      rw [if_pos (by simp [Region.wanted])]
      have e8 : L 5 = true → b8 < X.heap.size := fun e => by
        cases c : L 7 with
        | false => exact (h.z5 e c).lt
        | true => exact (h.k8 c).lt
      go_simp
      have gb := (Gr.alloc X (.cells #[.slice none 0 0, .slice none 0 0] 24)).below
      have hsz := h.low.size
      have hlow2 := below_later h.low gb
      exact ⟨_, _, _, _, _, _, fo, fn, fc, fp, fq, fr, ko, kn, kc, kp, kq, kr, X.heap.size, b8, rfl, ⟨hlow2, h.kx.later gb, h.ky.later gb, h.h0, fun e => ⟨(h.h1 e).1, (h.h1 e).2.later gb⟩, h.h2, fun e => ⟨(h.h3 e).1, (h.h3 e).2.later gb⟩, fun _ => ⟨rfl, hsz⟩, fun _ _ => Blk.new _ _ _, h.h5, fun e e2 => (h.z5 e e2).later gb, fun e => absurd (h.s64 e) (by rw [hL]; decide), fun e => (h.k8 e).later gb, fun _ e => Ne.symm (Nat.ne_of_lt (e8 e)), h.s61, fun _ => rfl, h.s73, h.s75⟩⟩
    | 5, _, hL, ho, hp =>
      simp only [List.getElem?_toArray, List.getElem?_cons_zero, List.getElem?_cons_succ, Option.some.injEq] at ho
      subst ho
      rw [if_pos (by simp [Region.wanted])]
      have e7 : L 4 = true → b7 < X.heap.size := fun e => by
        cases c : L 6 with
        | false => exact (h.z4 e c).lt
        | true => exact (h.k7 c).lt
      go_simp
      have gb := (Gr.alloc X (.cells #[.slice none 0 0, .slice none 0 0] 24)).below
      have hsz := h.low.size
      have hlow2 := below_later h.low gb
      exact ⟨_, _, _, _, _, _, fo, fn, fc, fp, fq, fr, ko, kn, kc, kp, kq, kr, b7, X.heap.size, rfl, ⟨hlow2, h.kx.later gb, h.ky.later gb, h.h0, fun e => ⟨(h.h1 e).1, (h.h1 e).2.later gb⟩, h.h2, fun e => ⟨(h.h3 e).1, (h.h3 e).2.later gb⟩, h.h4, fun e e2 => (h.z4 e e2).later gb, fun _ => ⟨rfl, hsz⟩, fun _ _ => Blk.new _ _ _, fun e => (h.k7 e).later gb, fun e => absurd (h.s75 e) (by rw [hL]; decide), fun e _ => Nat.ne_of_lt (e7 e), h.s61, h.s64, h.s73, fun _ => rfl⟩⟩
    | 6, _, hL, ho, hp =>
      simp only [List.getElem?_toArray, List.getElem?_cons_zero, List.getElem?_cons_succ, Option.some.injEq] at ho
      subst ho
      rw [if_pos (by simp [Region.wanted])]
      have p4 : L 4 = true := hp ⟨4, .data⟩ (by simp) rfl
      obtain ⟨rfl, hd4⟩ := h.h4 p4
      have p1 : L 1 = true := hp ⟨1, .data⟩ (by simp) rfl
      obtain ⟨rfl, hd1⟩ := h.h1 p1
      have hkr := h.z4 p4 hL
      have c0 := hkr.cell 0
      have c1 := hkr.cell 1
      have f0 := hkr.frozen 0
      have f1 := hkr.frozen 1
      have lr := hkr.lt
      simp only [List.getElem?_toArray, List.getElem?_cons_zero, List.getElem?_cons_succ] at c0 c1
      go_simp
      exact ⟨_, _, _, _, _, _, fo, fn, fc, fp, fq, fr, ko, kn, kc, kp, kq, kr, b7, b8, rfl, ⟨(h.low.setCell (p := ⟨b7, 0, none⟩) hd4 _).setCell (p := ⟨b7, 1, none⟩) hd4 _, (h.kx.other (p := ⟨b7, 0, none⟩) (ltn h.kx hd4 hbx) _).other (p := ⟨b7, 1, none⟩) (ltn h.kx hd4 hbx) _, (h.ky.other (p := ⟨b7, 0, none⟩) (ltn h.ky hd4 hby) _).other (p := ⟨b7, 1, none⟩) (ltn h.ky hd4 hby) _, h.h0, fun e => ⟨(h.h1 e).1, (h.h1 e).2.1.otherB2 hkr (by decide) 0 1 _ _, (h.h1 e).2.2.otherB2 hkr (by decide) 0 1 _ _⟩, h.h2, fun e => ⟨(h.h3 e).1, (h.h3 e).2.1.otherB2 hkr (by decide) 0 1 _ _, (h.h3 e).2.2.otherB2 hkr (by decide) 0 1 _ _⟩, h.h4, fun _ e => absurd ((upd_same L 6).symm.trans e) (by decide), h.h5, fun e e2 => ((h.z5 e e2).other (p := ⟨b7, 0, none⟩) (Ne.symm (h.nb p4 e)) _).other (p := ⟨b7, 1, none⟩) (Ne.symm (h.nb p4 e)) _, fun _ => hkr.setT, fun e => ((h.k8 e).other (p := ⟨b7, 0, none⟩) (Ne.symm (h.nb p4 (h.s75 e))) _).other (p := ⟨b7, 1, none⟩) (Ne.symm (h.nb p4 (h.s75 e))) _, h.nb, fun _ => p1, fun _ => p4, h.s73, h.s75⟩⟩
    | 7, _, hL, ho, hp =>
      simp only [List.getElem?_toArray, List.getElem?_cons_zero, List.getElem?_cons_succ, Option.some.injEq] at ho
      subst ho
      rw [if_pos (by simp [Region.wanted])]
      have p5 : L 5 = true := hp ⟨5, .data⟩ (by simp) rfl
      obtain ⟨rfl, hd5⟩ := h.h5 p5
      have p3 : L 3 = true := hp ⟨3, .data⟩ (by simp) rfl
      obtain ⟨rfl, hd3⟩ := h.h3 p3
      have hkr := h.z5 p5 hL
      have c0 := hkr.cell 0
      have c1 := hkr.cell 1
      have f0 := hkr.frozen 0
      have f1 := hkr.frozen 1
      have lr := hkr.lt
      simp only [List.getElem?_toArray, List.getElem?_cons_zero, List.getElem?_cons_succ] at c0 c1
      go_simp
      exact ⟨_, _, _, _, _, _, fo, fn, fc, fp, fq, fr, ko, kn, kc, kp, kq, kr, b7, b8, rfl, ⟨(h.low.setCell (p := ⟨b8, 0, none⟩) hd5 _).setCell (p := ⟨b8, 1, none⟩) hd5 _, (h.kx.other (p := ⟨b8, 0, none⟩) (ltn h.kx hd5 hbx) _).other (p := ⟨b8, 1, none⟩) (ltn h.kx hd5 hbx) _, (h.ky.other (p := ⟨b8, 0, none⟩) (ltn h.ky hd5 hby) _).other (p := ⟨b8, 1, none⟩) (ltn h.ky hd5 hby) _, h.h0, fun e => ⟨(h.h1 e).1, (h.h1 e).2.1.otherB2 hkr (by decide) 0 1 _ _, (h.h1 e).2.2.otherB2 hkr (by decide) 0 1 _ _⟩, h.h2, fun e => ⟨(h.h3 e).1, (h.h3 e).2.1.otherB2 hkr (by decide) 0 1 _ _, (h.h3 e).2.2.otherB2 hkr (by decide) 0 1 _ _⟩, h.h4, fun e e2 => ((h.z4 e e2).other (p := ⟨b8, 0, none⟩) (h.nb e p5) _).other (p := ⟨b8, 1, none⟩) (h.nb e p5) _, h.h5, fun _ e => absurd ((upd_same L 7).symm.trans e) (by decide), fun e => ((h.k7 e).other (p := ⟨b8, 0, none⟩) (h.nb (h.s64 e) p5) _).other (p := ⟨b8, 1, none⟩) (h.nb (h.s64 e) p5) _, fun _ => hkr.setT, h.nb, h.s61, h.s64, fun _ => p3, fun _ => p5⟩⟩
end Go.Proofs.Ytlhigfphfbmbjaa

