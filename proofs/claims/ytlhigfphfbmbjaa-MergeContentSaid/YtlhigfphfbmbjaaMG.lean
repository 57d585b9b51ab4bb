import Derived.Test.YtlhigfphfbmbjaaW0
import Derived.Test.YtlhigfphfbmbjaaW3
import Derived.Test.YtlhigfphfbmbjaaM19
import Derived.Test.YtlhigfphfbmbjaaM20
/- MergeContent: plain facts. No program is named here. -/
namespace Go.Proofs.Kit
open Go.RowKit
/-- Two tiers as one say, above others, what they said. -/
theorem join2_says (l : List Tr) (a b : Tr) (x : Pr) : says (l ++ [joinT (decide (l = [])) [a, b]]) x = 1 ↔ says (l ++ [a, b]) x = 1 := by
  rw [says_append, says_append, says_one]
  by_cases h0 : l = []
  · subst h0
    have hn : says [] x = 0 := rfl
    rw [decide_eq_true rfl, say1_old, hn]
    rcases says_cases [a, b] x with m | m | m <;> simp [m]
  · rw [decide_eq_false h0, say1_join]
theorem join2_cont {l : List Tr} {a b : Tr} (hg : goodT (l ++ [a, b])) (h : SmT 1000 [a, b]) : goodT (l ++ [joinT (decide (l = [])) [a, b]]) ∧ cont (l ++ [joinT (decide (l = [])) [a, b]]) = cont (l ++ [a, b]) := by
  have hg2 : goodT (l ++ [joinT (decide (l = [])) [a, b]]) := by
    refine ⟨fun t ht => ?_, by have := hg.2; simp at this ⊢; omega⟩
    rcases List.mem_append.1 ht with h1 | h1
    · exact hg.1 t (List.mem_append.2 (.inl h1))
    · simp only [List.mem_cons, List.not_mem_nil, or_false] at h1
      rw [h1]
      exact joinT_one h (by simp) _
  refine ⟨hg2, ?_⟩
  unfold cont
  rw [if_pos hg, if_pos hg2]
  exact those_of (by decide) (those_run _ 1) fun p => by rw [those_mem (by decide), join2_says]
end Go.Proofs.Kit


/- slices.Clone of tiers. -/
namespace Go.Proofs.Ytlhigfphfbmbjaa
open Go.RowKit Go.Proofs.Kit Go.Shelf
set_option maxHeartbeats 4000000 in
set_option maxRecDepth 100000 in
theorem cloneT_any (v : Value) (l : List Ti) (w : World) (hs : SegE tiE w v l) (h12 : l.length ≤ 100000) :
    Calls Try.prog 27 #[v] w fun e w' => ∃ v', e = .returned v' ∧ OwnE tiE 24 w.heap.size w' v' l ∧ Below w.heap.size w w' := by
  have q38 : ∀ (w : World) (a : Option Addr) (n c n' c' : Nat), (binOp .eql 45 (.slice a n c) (.slice none n' c')).run Try.prog w = .ok (.bool a.isNone) w := fun w a n c n' c' => Lib.run_eql_slice_nil w _ _ a n c n' c' Try.underlying45
  have u38 : ∀ w, Sem.run Try.prog (underlying 45) w = .ok (TypeDesc.slice 24) w := run_underlying Try.underlying45
  rcases hs.2 with ⟨rfl, rfl⟩ | ⟨b, f, c, rfl, h2, h3, h4, h5⟩
  · clear hs
    go_enter Try.func27, Try.ntmps27
    go_wp2
    go_ret
    exact ⟨_, rfl, OwnE.nil _ _ _ _, Below.refl _ _⟩
  · obtain ⟨i0, hi, hz0, hz1, hz2⟩ := infoT
    have H5 := Lib.hid h5
    have HS := Lib.hid hs
    obtain ⟨n, hn⟩ : ∃ n, n = l.length := ⟨_, rfl⟩
    have HN := Lib.hid hn
    rw [← hn] at h2 h12 ⊢
    clear h5 hs hn
    go_enter Try.func27, Try.ntmps27
    go_wp2_with (at_builtin; refine wpList_append_own _ rfl _ _ 45 rfl w.heap.size 24 i0 (.agg #[.slice none 0 0, .slice none 0 0]) tiE.k 48 Try.underlying45 hi hz0 hz1 hz2 rfl (by decide) _ _ _ rfl (World.ownsRow_made w #[] 0 (Nat.le_refl _) (Nat.zero_le _) rfl) ⟨b, f, none⟩ n c (flatE tiE l) rfl ?qc1 ?qc2 (flatE_one l) ?qc4 ?qc5 ?qc6 ?_)
    case qc1 => rw [flatE_length, HN.out]
    case qc2 =>
      intro j u hj
      have hjn : j < l.length * tiE.k := by have := (List.getElem?_eq_some_iff.1 hj).1; rwa [flatE_length] at this
      have hk : j / tiE.k < l.length := Nat.div_lt_of_lt_mul (by rw [Nat.mul_comm]; exact hjn)
      have hr : j % tiE.k < tiE.k := Nat.mod_lt _ tiE.pos
      have hq : j / tiE.k * tiE.k + j % tiE.k = j := by rw [Nat.mul_comm]; exact Nat.div_add_mod _ _
      have hf := flatE_get (E := tiE) l _ _ hk hr
      rw [hq, hj] at hf
      refine Lib.cell?_alloc_some _ ?_
      rw [Addr.add_lit]
      have := H5.out _ hk _ u hf.symm
      rw [show f + j / tiE.k * tiE.k + j % tiE.k = f + j by omega] at this
      exact this
    case qc4 => unfold maxLen; have := HS.out.1; have := HN.out; simp only [Nat.zero_add]; rw [this]; omega
    case qc5 => omega
    case qc6 => simp
    intro v' w1 hown hgrow hnil
    go_wp2
    go_ret
    refine ⟨v', rfl, ?_, ((Below.refl _ w).alloc (Nat.le_refl _) _).grown hgrow (by simp) (by intro k hk; simp [Value.ownBlock] at hk; omega)⟩
    refine ⟨HS.out.1, ?_⟩
    rw [← HN.out]
    simpa using hown
end Go.Proofs.Ytlhigfphfbmbjaa


/- MergeContent' first region: both tiers in memory of the call's own, by one invariant (tools/gen_m19.py). -/
namespace Go.Proofs.Ytlhigfphfbmbjaa
open Go.RowKit Go.Proofs.Kit Go.Shelf
structure MCI (w0 : World) (bx by1 : Nat) (x y : Ti) (t u : Tr) (no : Option Addr) (nn nc : Nat) (L : Nat → Bool) (w : World) (t7 t8 t18 t19 t20 t21 : Value) (fo : Option Addr) (fn : Nat) (fc : Nat) (fp : Option Addr) (fq : Nat) (fr : Nat) (ko : Option Addr) (kn : Nat) (kc : Nat) (kp : Option Addr) (kq : Nat) (kr : Nat) (b7 : Nat) (b8 : Nat) : Prop where
  low : Below w0.heap.size w0 w
  kx : Blk w bx #[x.av, x.bv] 24
  ky : Blk w by1 #[y.av, y.bv] 24
  h0 : L 0 = true → t18 = .agg #[x.av, x.bv]
  h1 : L 1 = true → t19 = .agg #[.slice fo fn fc, .slice fp fq fr] ∧ OwnQ 53 w0.heap.size w ⟨fo, fn, fc, fp, fq, fr⟩ (few24 t)
  h2 : L 2 = true → t20 = .agg #[y.av, y.bv]
  h3 : L 3 = true → t21 = .agg #[.slice ko kn kc, .slice kp kq kr] ∧ OwnQ 53 w0.heap.size w ⟨ko, kn, kc, kp, kq, kr⟩ (few24 u)
  h4 : L 4 = true → t7 = .pointer (some ⟨b7, 0, none⟩) ∧ w0.heap.size ≤ b7
  z4 : L 4 = true → L 6 = false → Blk w b7 #[.slice none 0 0, .slice none 0 0] 24
  h5 : L 5 = true → t8 = .pointer (some ⟨b8, 0, none⟩) ∧ w0.heap.size ≤ b8
  z5 : L 5 = true → L 7 = false → Blk w b8 #[.slice none 0 0, .slice none 0 0] 24
  k7 : L 6 = true → Blk w b7 #[.slice fo fn fc, .slice fp fq fr] 24
  k8 : L 7 = true → Blk w b8 #[.slice ko kn kc, .slice kp kq kr] 24
  nb : L 4 = true → L 5 = true → b7 ≠ b8
  s61 : L 6 = true → L 1 = true
  s64 : L 6 = true → L 4 = true
  s73 : L 7 = true → L 3 = true
  s75 : L 7 = true → L 5 = true
def MCV (w0 : World) (bx by1 : Nat) (x y : Ti) (t u : Tr) (no : Option Addr) (nn nc : Nat) (L : Nat → Bool) (a : Act) (X : World) : Prop :=
  ∃ t7 t8 t18 t19 t20 t21 fo fn fc fp fq fr ko kn kc kp kq kr b7 b8, a = { tmps := #[.agg #[x.av, x.bv], .agg #[y.av, y.bv], .slice no nn nc, .pointer (some ⟨bx, 0, none⟩), .pointer (some ⟨by1, 0, none⟩), undef, .bool false, t7, t8, undef, undef, undef, undef, undef, undef, undef, .bool true, .bool false, t18, t19, t20, t21, undef, undef, undef, undef, undef, undef, undef, undef, undef, undef, undef, undef, undef, undef, undef, undef, undef, undef, undef, undef, undef, undef, undef, undef, undef, undef, undef, undef, undef, undef, undef, undef, undef, undef, undef, undef, undef, undef, undef, undef, undef, undef, undef, undef, undef, undef, undef, undef, undef, undef, undef, undef, undef, undef, undef, undef, undef, undef, undef, undef, undef, undef, undef, undef, undef, undef, undef, undef, undef, undef], defers := [] } ∧ MCI w0 bx by1 x y t u no nn nc L X t7 t8 t18 t19 t20 t21 fo fn fc fp fq fr ko kn kc kp kq kr b7 b8
set_option maxRecDepth 100000 in
set_option maxHeartbeats 16000000 in
theorem MC_region {Q : Exit → Act → World → Prop} (w0 : World) (bx by1 : Nat) (x y : Ti) (t u : Tr) (no : Option Addr) (nn nc : Nat) (W : World) (a : Act) (ha : a = { tmps := #[.agg #[x.av, x.bv], .agg #[y.av, y.bv], .slice no nn nc, .pointer (some ⟨bx, 0, none⟩), .pointer (some ⟨by1, 0, none⟩), undef, .bool false, undef, undef, undef, undef, undef, undef, undef, undef, undef, .bool true, .bool false, undef, undef, undef, undef, undef, undef, undef, undef, undef, undef, undef, undef, undef, undef, undef, undef, undef, undef, undef, undef, undef, undef, undef, undef, undef, undef, undef, undef, undef, undef, undef, undef, undef, undef, undef, undef, undef, undef, undef, undef, undef, undef, undef, undef, undef, undef, undef, undef, undef, undef, undef, undef, undef, undef, undef, undef, undef, undef, undef, undef, undef, undef, undef, undef, undef, undef, undef, undef, undef, undef, undef, undef, undef, undef], defers := [] }) (hlow : Below w0.heap.size w0 W) (hkx : Blk W bx #[x.av, x.bv] 24) (hky : Blk W by1 #[y.av, y.bv] 24)
    (hbx : bx < w0.heap.size) (hby : by1 < w0.heap.size) (HX : Hid (∀ W, Below w0.heap.size w0 W → Calls Try.prog 25 #[.agg #[x.av, x.bv]] W fun e w' => ∃ y : Ti, e = .returned (.agg #[y.av, y.bv]) ∧ OwnQ 53 W.heap.size w' y (few24 t) ∧ Below W.heap.size W w'))
    (HY : Hid (∀ W, Below w0.heap.size w0 W → Calls Try.prog 25 #[.agg #[y.av, y.bv]] W fun e w' => ∃ z : Ti, e = .returned (.agg #[z.av, z.bv]) ∧ OwnQ 53 W.heap.size w' z (few24 u) ∧ Below W.heap.size W w'))
    (hQ : ∀ L t7 t8 t18 t19 t20 t21 fo fn fc fp fq fr ko kn kc kp kq kr b7 b8 X, (∀ i, i < 8 → L i = true) → MCI w0 bx by1 x y t u no nn nc L X t7 t8 t18 t19 t20 t21 fo fn fc fp fq fr ko kn kc kp kq kr b7 b8 → Q .normal { tmps := #[.agg #[x.av, x.bv], .agg #[y.av, y.bv], .slice no nn nc, .pointer (some ⟨bx, 0, none⟩), .pointer (some ⟨by1, 0, none⟩), undef, .bool false, t7, t8, undef, undef, undef, undef, undef, undef, undef, .bool true, .bool false, t18, t19, t20, t21, undef, undef, undef, undef, undef, undef, undef, undef, undef, undef, undef, undef, undef, undef, undef, undef, undef, undef, undef, undef, undef, undef, undef, undef, undef, undef, undef, undef, undef, undef, undef, undef, undef, undef, undef, undef, undef, undef, undef, undef, undef, undef, undef, undef, undef, undef, undef, undef, undef, undef, undef, undef, undef, undef, undef, undef, undef, undef, undef, undef, undef, undef, undef, undef, undef, undef, undef, undef, undef, undef], defers := [] } X) :
    (Code.region 3 #[{ dst := some 18, op := Op.load 24 (Operand.tmp 3), type := 24, pos := "outright.go:75", after := #[], guard := none }, { dst := some 19, op := Op.call { callee := Callee.value (Operand.func 25), args := #[Operand.tmp 18], argTypes := #[24] }, type := 24, pos := "outright.go:75", after := #[{ on := 0, ground := Ground.data }], guard := none }, { dst := some 20, op := Op.load 24 (Operand.tmp 4), type := 24, pos := "outright.go:75", after := #[], guard := none }, { dst := some 21, op := Op.call { callee := Callee.value (Operand.func 25), args := #[Operand.tmp 20], argTypes := #[24] }, type := 24, pos := "outright.go:75", after := #[{ on := 2, ground := Ground.data }, { on := 1, ground := Ground.chain }], guard := none }, { dst := some 7, op := Op.alloc 24, type := 0, pos := "outright.go:75", after := #[], guard := none }, { dst := some 8, op := Op.alloc 24, type := 0, pos := "outright.go:75", after := #[], guard := none }, { dst := none, op := Op.store 24 (Operand.tmp 7) (Operand.tmp 19), type := 0, pos := "outright.go:75", after := #[{ on := 4, ground := Ground.data }, { on := 1, ground := Ground.data }, { on := 3, ground := Ground.chain }, { on := 0, ground := Ground.phase }, { on := 1, ground := Ground.phase }, { on := 2, ground := Ground.textOnly Departure.lateStores }, { on := 3, ground := Ground.textOnly Departure.lateStoresUnsure }, { on := 4, ground := Ground.phase }, { on := 5, ground := Ground.phase }], guard := none }, { dst := none, op := Op.store 24 (Operand.tmp 8) (Operand.tmp 21), type := 0, pos := "outright.go:75", after := #[{ on := 5, ground := Ground.data }, { on := 3, ground := Ground.data }, { on := 6, ground := Ground.chain }, { on := 0, ground := Ground.phase }, { on := 1, ground := Ground.phase }, { on := 2, ground := Ground.phase }, { on := 3, ground := Ground.phase }, { on := 4, ground := Ground.phase }, { on := 5, ground := Ground.phase }, { on := 6, ground := Ground.phase }], guard := none }] true).wp Try.prog Q a W := by
  have hmix := mixed
  refine wp_region_inv hmix (Inv := MCV w0 bx by1 x y t u no nn nc) (by kernel_rfl) ?h0 ?hstep ?hdone
  case h0 =>
    subst ha
    exact ⟨undef, undef, undef, undef, undef, undef, none, 0, 0, none, 0, 0, none, 0, 0, none, 0, 0, 0, 0, rfl, ⟨hlow.drew, hkx.drew, hky.drew, nofun, nofun, nofun, nofun, nofun, nofun, nofun, nofun, nofun, nofun, nofun, nofun, nofun, nofun, nofun⟩⟩
  case hdone =>
    rintro L a X ⟨t7, t8, t18, t19, t20, t21, fo, fn, fc, fp, fq, fr, ko, kn, kc, kp, kq, kr, b7, b8, rfl, h⟩ hall
    exact hQ L t7 t8 t18 t19 t20 t21 fo fn fc fp fq fr ko kn kc kp kq kr b7 b8 X hall h
  case hstep =>
    clear hQ ha
    rintro L a X i op ⟨t7, t8, t18, t19, t20, t21, fo, fn, fc, fp, fq, fr, ko, kn, kc, kp, kq, kr, b7, b8, rfl, h⟩ hL ho hp
    have hi : i < 8 := (Array.getElem?_eq_some_iff.1 ho).1
    match i, hi, hL, ho, hp with
    | 0, _, hL, ho, hp =>
      simp only [List.getElem?_toArray, List.getElem?_cons_zero, Option.some.injEq] at ho
      subst ho
      rw [if_pos (by simp [Region.wanted])]
      have ckx0 := h.kx.cell 0
      have ckx1 := h.kx.cell 1
      have lkx := h.kx.lt
      simp only [List.getElem?_toArray, List.getElem?_cons_zero, List.getElem?_cons_succ] at ckx0 ckx1
      go_simp
      exact ⟨_, _, _, _, _, _, fo, fn, fc, fp, fq, fr, ko, kn, kc, kp, kq, kr, b7, b8, rfl, ⟨h.low, h.kx, h.ky, fun _ => rfl, h.h1, h.h2, h.h3, h.h4, h.z4, h.h5, h.z5, h.k7, h.k8, h.nb, h.s61, h.s64, h.s73, h.s75⟩⟩
    | 1, _, hL, ho, hp =>
      simp only [List.getElem?_toArray, List.getElem?_cons_zero, List.getElem?_cons_succ, Option.some.injEq] at ho
      subst ho
      rw [if_pos (by simp [Region.wanted])]
      have p0 : L 0 = true := hp ⟨0, .data⟩ (by simp) rfl
      obtain rfl := h.h0 p0
      go_simp
      go_at_call 25
      (with_reducible refine (HX.out _ h.low).mono ?_)
      rintro e X2 ⟨⟨qo, qn, qc, qp, qq, qr⟩, rfl, hq, gb⟩
      have hsz := h.low.size
      have hlow2 := below_later h.low gb
      exact ⟨_, _, _, _, _, _, qo, qn, qc, qp, qq, qr, ko, kn, kc, kp, kq, kr, b7, b8, rfl, ⟨hlow2, h.kx.later gb, h.ky.later gb, h.h0, fun _ => ⟨rfl, hq.mono hsz⟩, h.h2, fun e => ⟨(h.h3 e).1, (h.h3 e).2.later gb⟩, h.h4, fun e e2 => (h.z4 e e2).later gb, h.h5, fun e e2 => (h.z5 e e2).later gb, fun e => absurd (h.s61 e) (by rw [hL]; decide), fun e => (h.k8 e).later gb, h.nb, fun _ => rfl, h.s64, h.s73, h.s75⟩⟩
    | 2, _, hL, ho, hp =>
      simp only [List.getElem?_toArray, List.getElem?_cons_zero, List.getElem?_cons_succ, Option.some.injEq] at ho
      subst ho
      rw [if_pos (by simp [Region.wanted])]
      have cky0 := h.ky.cell 0
      have cky1 := h.ky.cell 1
      have lky := h.ky.lt
      simp only [List.getElem?_toArray, List.getElem?_cons_zero, List.getElem?_cons_succ] at cky0 cky1
      go_simp
      exact ⟨_, _, _, _, _, _, fo, fn, fc, fp, fq, fr, ko, kn, kc, kp, kq, kr, b7, b8, rfl, ⟨h.low, h.kx, h.ky, h.h0, h.h1, fun _ => rfl, h.h3, h.h4, h.z4, h.h5, h.z5, h.k7, h.k8, h.nb, h.s61, h.s64, h.s73, h.s75⟩⟩
    | 3, _, hL, ho, hp =>
      simp only [List.getElem?_toArray, List.getElem?_cons_zero, List.getElem?_cons_succ, Option.some.injEq] at ho
      subst ho
      rw [if_pos (by simp [Region.wanted])]
      have p2 : L 2 = true := hp ⟨2, .data⟩ (by simp) rfl
      obtain rfl := h.h2 p2
      go_simp
      go_at_call 25
      (with_reducible refine (HY.out _ h.low).mono ?_)
      rintro e X2 ⟨⟨qo, qn, qc, qp, qq, qr⟩, rfl, hq, gb⟩
      have hsz := h.low.size
      have hlow2 := below_later h.low gb
      exact ⟨_, _, _, _, _, _, fo, fn, fc, fp, fq, fr, qo, qn, qc, qp, qq, qr, b7, b8, rfl, ⟨hlow2, h.kx.later gb, h.ky.later gb, h.h0, fun e => ⟨(h.h1 e).1, (h.h1 e).2.later gb⟩, h.h2, fun _ => ⟨rfl, hq.mono hsz⟩, h.h4, fun e e2 => (h.z4 e e2).later gb, h.h5, fun e e2 => (h.z5 e e2).later gb, fun e => (h.k7 e).later gb, fun e => absurd (h.s73 e) (by rw [hL]; decide), h.nb, h.s61, h.s64, fun _ => rfl, h.s75⟩⟩
    | 4, _, hL, ho, hp =>
      simp only [List.getElem?_toArray, List.getElem?_cons_zero, List.getElem?_cons_succ, Option.some.injEq] at ho
      subst ho
      rw [if_pos (by simp [Region.wanted])]
      have e8 : L 5 = true → b8 < X.heap.size := fun e => by
        cases c : L 7 with
        | false => exact (h.z5 e c).lt
        | true => exact (h.k8 c).lt
      go_simp
      have gb := (Gr.alloc X (.cells #[.slice none 0 0, .slice none 0 0] 24)).below
      have hsz := h.low.size
      have hlow2 := below_later h.low gb
      exact ⟨_, _, _, _, _, _, fo, fn, fc, fp, fq, fr, ko, kn, kc, kp, kq, kr, X.heap.size, b8, rfl, ⟨hlow2, h.kx.later gb, h.ky.later gb, h.h0, fun e => ⟨(h.h1 e).1, (h.h1 e).2.later gb⟩, h.h2, fun e => ⟨(h.h3 e).1, (h.h3 e).2.later gb⟩, fun _ => ⟨rfl, hsz⟩, fun _ _ => Blk.new _ _ _, h.h5, fun e e2 => (h.z5 e e2).later gb, fun e => absurd (h.s64 e) (by rw [hL]; decide), fun e => (h.k8 e).later gb, fun _ e => Ne.symm (Nat.ne_of_lt (e8 e)), h.s61, fun _ => rfl, h.s73, h.s75⟩⟩
    | 5, _, hL, ho, hp =>
      simp only [List.getElem?_toArray, List.getElem?_cons_zero, List.getElem?_cons_succ, Option.some.injEq] at ho
      subst ho
      rw [if_pos (by simp [Region.wanted])]
      have e7 : L 4 = true → b7 < X.heap.size := fun e => by
        cases c : L 6 with
        | false => exact (h.z4 e c).lt
        | true => exact (h.k7 c).lt
      go_simp
      have gb := (Gr.alloc X (.cells #[.slice none 0 0, .slice none 0 0] 24)).below
      have hsz := h.low.size
      have hlow2 := below_later h.low gb
      exact ⟨_, _, _, _, _, _, fo, fn, fc, fp, fq, fr, ko, kn, kc, kp, kq, kr, b7, X.heap.size, rfl, ⟨hlow2, h.kx.later gb, h.ky.later gb, h.h0, fun e => ⟨(h.h1 e).1, (h.h1 e).2.later gb⟩, h.h2, fun e => ⟨(h.h3 e).1, (h.h3 e).2.later gb⟩, h.h4, fun e e2 => (h.z4 e e2).later gb, fun _ => ⟨rfl, hsz⟩, fun _ _ => Blk.new _ _ _, fun e => (h.k7 e).later gb, fun e => absurd (h.s75 e) (by rw [hL]; decide), fun e _ => Nat.ne_of_lt (e7 e), h.s61, h.s64, h.s73, fun _ => rfl⟩⟩
    | 6, _, hL, ho, hp =>
      simp only [List.getElem?_toArray, List.getElem?_cons_zero, List.getElem?_cons_succ, Option.some.injEq] at ho
      subst ho
      rw [if_pos (by simp [Region.wanted])]
      have p4 : L 4 = true := hp ⟨4, .data⟩ (by simp) rfl
      obtain ⟨rfl, hd4⟩ := h.h4 p4
      have p1 : L 1 = true := hp ⟨1, .data⟩ (by simp) rfl
      obtain ⟨rfl, hd1⟩ := h.h1 p1
      have hkr := h.z4 p4 hL
      have c0 := hkr.cell 0
      have c1 := hkr.cell 1
      have f0 := hkr.frozen 0
      have f1 := hkr.frozen 1
      have lr := hkr.lt
      simp only [List.getElem?_toArray, List.getElem?_cons_zero, List.getElem?_cons_succ] at c0 c1
      go_simp
      exact ⟨_, _, _, _, _, _, fo, fn, fc, fp, fq, fr, ko, kn, kc, kp, kq, kr, b7, b8, rfl, ⟨(h.low.setCell (p := ⟨b7, 0, none⟩) hd4 _).setCell (p := ⟨b7, 1, none⟩) hd4 _, (h.kx.other (p := ⟨b7, 0, none⟩) (ltn h.kx hd4 hbx) _).other (p := ⟨b7, 1, none⟩) (ltn h.kx hd4 hbx) _, (h.ky.other (p := ⟨b7, 0, none⟩) (ltn h.ky hd4 hby) _).other (p := ⟨b7, 1, none⟩) (ltn h.ky hd4 hby) _, h.h0, fun e => ⟨(h.h1 e).1, (h.h1 e).2.1.otherB2 hkr (by decide) 0 1 _ _, (h.h1 e).2.2.otherB2 hkr (by decide) 0 1 _ _⟩, h.h2, fun e => ⟨(h.h3 e).1, (h.h3 e).2.1.otherB2 hkr (by decide) 0 1 _ _, (h.h3 e).2.2.otherB2 hkr (by decide) 0 1 _ _⟩, h.h4, fun _ e => absurd ((upd_same L 6).symm.trans e) (by decide), h.h5, fun e e2 => ((h.z5 e e2).other (p := ⟨b7, 0, none⟩) (Ne.symm (h.nb p4 e)) _).other (p := ⟨b7, 1, none⟩) (Ne.symm (h.nb p4 e)) _, fun _ => hkr.setT, fun e => ((h.k8 e).other (p := ⟨b7, 0, none⟩) (Ne.symm (h.nb p4 (h.s75 e))) _).other (p := ⟨b7, 1, none⟩) (Ne.symm (h.nb p4 (h.s75 e))) _, h.nb, fun _ => p1, fun _ => p4, h.s73, h.s75⟩⟩
    | 7, _, hL, ho, hp =>
      simp only [List.getElem?_toArray, List.getElem?_cons_zero, List.getElem?_cons_succ, Option.some.injEq] at ho
      subst ho
      rw [if_pos (by simp [Region.wanted])]
      have p5 : L 5 = true := hp ⟨5, .data⟩ (by simp) rfl
      obtain ⟨rfl, hd5⟩ := h.h5 p5
      have p3 : L 3 = true := hp ⟨3, .data⟩ (by simp) rfl
      obtain ⟨rfl, hd3⟩ := h.h3 p3
      have hkr := h.z5 p5 hL
      have c0 := hkr.cell 0
      have c1 := hkr.cell 1
      have f0 := hkr.frozen 0
      have f1 := hkr.frozen 1
      have lr := hkr.lt
      simp only [List.getElem?_toArray, List.getElem?_cons_zero, List.getElem?_cons_succ] at c0 c1
      go_simp
      exact ⟨_, _, _, _, _, _, fo, fn, fc, fp, fq, fr, ko, kn, kc, kp, kq, kr, b7, b8, rfl, ⟨(h.low.setCell (p := ⟨b8, 0, none⟩) hd5 _).setCell (p := ⟨b8, 1, none⟩) hd5 _, (h.kx.other (p := ⟨b8, 0, none⟩) (ltn h.kx hd5 hbx) _).other (p := ⟨b8, 1, none⟩) (ltn h.kx hd5 hbx) _, (h.ky.other (p := ⟨b8, 0, none⟩) (ltn h.ky hd5 hby) _).other (p := ⟨b8, 1, none⟩) (ltn h.ky hd5 hby) _, h.h0, fun e => ⟨(h.h1 e).1, (h.h1 e).2.1.otherB2 hkr (by decide) 0 1 _ _, (h.h1 e).2.2.otherB2 hkr (by decide) 0 1 _ _⟩, h.h2, fun e => ⟨(h.h3 e).1, (h.h3 e).2.1.otherB2 hkr (by decide) 0 1 _ _, (h.h3 e).2.2.otherB2 hkr (by decide) 0 1 _ _⟩, h.h4, fun e e2 => ((h.z4 e e2).other (p := ⟨b8, 0, none⟩) (h.nb e p5) _).other (p := ⟨b8, 1, none⟩) (h.nb e p5) _, h.h5, fun _ e => absurd ((upd_same L 7).symm.trans e) (by decide), fun e => ((h.k7 e).other (p := ⟨b8, 0, none⟩) (h.nb (h.s64 e) p5) _).other (p := ⟨b8, 1, none⟩) (h.nb (h.s64 e) p5) _, fun _ => hkr.setT, h.nb, h.s61, h.s64, fun _ => p3, fun _ => p5⟩⟩
end Go.Proofs.Ytlhigfphfbmbjaa


/- MergeContent's last region, by one invariant (tools/gen_m29.py). -/
namespace Go.Proofs.Kit
open Go.RowKit
theorem wp_append_segE {α : Type} {E : Enc α} {P : Program} {w : World} {o : Oper} {a : Act} {K : Act → World → Prop} {Q : Exit → Act → World → Prop} (s x : Operand) (t : TypeId)
    (ho : o.op = .call { callee := .builtin .append, args := #[s, x], argTypes := #[t, t] })
    (base : Nat) (e : TypeId) (i : TypeInfo) (z : Value) (bytes : Nat) (ht : P.underlying t = some (.slice e)) (hi : P.info? e = some i) (hz : i.zero = some z) (hsize : i.size = E.k) (hby : i.bytes = bytes) (hzs : z.cells.size = E.k)
    (v : Value) (l : List α) (hs : a.eval s = v) (hown : OwnE E e base w v l) (vx : Value) (m : List α) (hx : a.eval x = vx) (hm : SegE E w vx m) (hm0 : m ≠ [])
    (h63 : (l.length + m.length) * E.k ≤ 9223372036854775807) (hbytes : (l.length + m.length) * bytes ≤ 140737488355328) (hbase : base ≤ w.heap.size)
    (h : ∀ v' w', OwnE E e base w' v' (l ++ m) → Below base w w' → w.grownBy w' v.ownBlock → K (a.put o.dst v') w') : Oper.wp P o a w K Q := by
  have hlen := len_mul E (l.length + m.length)
  rcases hm.2 with ⟨_, rfl⟩ | ⟨b, f, c, rfl, h2, h3, h4, h5⟩
  · exact (hm0 rfl).elim
  · subst hby
    have hnews : ∀ j u, (flatE E m)[j]? = some u → w.cell? ((⟨b, f, none⟩ : Addr).add j) = some u := by
      intro j u hj
      have hjn : j < m.length * E.k := by have := (List.getElem?_eq_some_iff.1 hj).1; rwa [flatE_length] at this
      have hk : j / E.k < m.length := Nat.div_lt_of_lt_mul (by rw [Nat.mul_comm]; exact hjn)
      have hr : j % E.k < E.k := Nat.mod_lt _ E.pos
      have hq : j / E.k * E.k + j % E.k = j := by rw [Nat.mul_comm]; exact Nat.div_add_mod _ _
      have hf := flatE_get (E := E) m _ _ hk hr
      rw [hq, hj] at hf
      rw [Addr.add_lit]
      have := h5 _ hk _ u hf.symm
      rw [show f + j / E.k * E.k + j % E.k = f + j by omega] at this
      exact this
    obtain ⟨v', w', hr, hO, hG, _⟩ := run_append_own (P := P) w base t o.type e i z E.k i.bytes ht hi hz hsize rfl hzs E.pos v _ _ hown.2 ⟨b, f, none⟩ m.length c (flatE E m) (flatE_length m) hnews (flatE_one m) (by unfold maxLen; omega) hbytes hbase
    unfold Oper.wp execOp
    simp only [ho, resolve, invoke, builtin, Sem.run_bind, Sem.run_pure, Result.andThen_ok, List.map_toArray, List.map_cons, List.map_nil, hs, hx, hr]
    refine h v' w' ⟨by rw [List.length_append]; exact h63, ?_⟩ ((Below.refl _ _).grown hG hbase (fun g hg => (hown.lt g hg).1)) hG
    rw [List.length_append, flatE_append]
    exact hO
end Go.Proofs.Kit
namespace Go.Proofs.Ytlhigfphfbmbjaa
open Go.RowKit Go.Proofs.Kit Go.Shelf
theorem segT_app {w w' : World} {v : Value} {l m : List Ti} {L M : List Tr} (h1 : l.length = L.length) (h2 : ∀ i (h : i < l.length) (h' : i < L.length), TR w l[i] L[i]) (h3 : m.length = M.length) (h4 : ∀ i (h : i < m.length) (h' : i < M.length), TR w m[i] M[i])
    (hb : Below w.heap.size w w') (hs : SegE tiE w' v (l ++ m)) : SegT w' v (L ++ M) := by
  refine ⟨l ++ m, hs, by simp [h1, h3], fun i a b => ?_⟩
  by_cases e : i < l.length
  · have := h2 i e (by omega)
    rw [List.getElem_append_left e, List.getElem_append_left (by omega)]
    exact this.later hb
  · have hi : i - l.length < m.length := by simp at a; omega
    have := h4 (i - l.length) hi (by omega)
    rw [List.getElem_append_right (by omega), List.getElem_append_right (by omega)]
    simp only [h1] at this ⊢
    exact this.later hb
theorem tr_two {w : World} {xa xb : Ti} {t u : Tr} (ha : TR w xa t) (hb : TR w xb u) : ∀ i (_ : i < [xa, xb].length) (_ : i < [t, u].length), TR w [xa, xb][i] [t, u][i] := by
  intro i h h'
  match i, h, h' with
  | 0, _, _ => exact ha
  | 1, _, _ => exact hb
theorem tr_one {w : World} {x : Ti} {t : Tr} (h : TR w x t) : ∀ i (_ : i < [x].length) (_ : i < [t].length), TR w [x][i] [t][i] := by
  intro i h1 h2
  match i, h1, h2 with
  | 0, _, _ => exact h
theorem equalC (v1 v2 : Value) (C : List Pr) (w : World) (h1 : SegP w v1 C) (h2 : SegP w v2 C) : Calls Try.prog 28 #[v1, v2] w fun e w' => e = .returned (.bool true) ∧ Gr w w' := by
  have h := equalP_seg v1 v2 C C w h1 h2
  rwa [decide_eq_true rfl] at h
structure MZI (w0 : World) (b7 b8 b14 g3 g4 nl q1 : Nat) (q0 : Option Addr) (eo : Option Addr) (en ec : Nat) (ep : Option Addr) (eq er : Nat) (fo : Option Addr) (fn fc : Nat) (fp : Option Addr) (fq fr : Nat) (ko : Option Addr) (kn kc : Nat) (kp : Option Addr) (kq kr : Nat) (vo0 : Option Addr) (vn0 vc0 : Nat) (vp0 : Option Addr) (vq0 vr0 : Nat) (wo0 : Option Addr) (wn0 wc0 : Nat) (wp0 : Option Addr) (wq0 wr0 : Nat) (oo : Option Addr) (on oc : Nat) (s10 s11 s12 s16 s17 s18 s19 s20 s21 s22 s23 s24 s25 s26 s27 s28 s29 s30 s31 s32 s33 s34 s35 s36 s37 s38 s39 s40 s41 s42 s43 s44 s45 s46 s47 s48 s49 s50 s51 s52 s53 s54 s55 s56 s57 s58 s59 s60 s61 s62 s63 s64 s65 s66 s67 s68 s69 : Value) (l : List Ti) (LO : List Tr) (J t u : Tr) (C : List Pr) (L : Nat → Bool) (w : World) (t6 t70 t71 t72 t73 t74 t75 t76 t77 t78 t79 t80 t81 t82 t83 t84 t85 t86 t87 t88 t89 t90 t91 : Value) (ao : Option Addr) (ac : Nat) (bo : Option Addr) (bc : Nat) (xo : Option Addr) (xn : Nat) (xc : Nat) (zo : Option Addr) (zn : Nat) (zc : Nat) (so : Option Addr) (sn : Nat) (sc : Nat) (yo : Option Addr) (yn : Nat) (yc : Nat) (bq : Nat) (br : Nat) : Prop where
  low : Below w0.heap.size w0 w
  h0 : L 0 = true → t70 = .int .i64 0
  h1 : L 1 = true → t71 = .bool true
  h2 : L 2 = true → t72 = .bool true
  h3 : L 3 = true → t73 = .int .i64 0
  h4 : L 4 = true → t74 = .bool true
  h5 : L 5 = true → t75 = .bool true
  h6 : L 6 = true → t76 = .bool true
  h7 : L 7 = true → t77 = .slice q0 nl q1
  h8 : L 8 = true → t78 = .slice ao l.length ac
  h9 : L 9 = true → t79 = .agg #[.slice eo en ec, .slice ep eq er]
  h12 : L 12 = true → t82 = .slice xo xn xc ∧ OwnP 53 w0.heap.size w (.slice xo xn xc) C
  h13 : L 13 = true → t83 = .slice q0 nl q1
  h14 : L 14 = true → t84 = .slice bo l.length bc
  h15 : L 15 = true → t85 = .agg #[.slice fo fn fc, .slice fp fq fr]
  h16 : L 16 = true → t86 = .agg #[.slice ko kn kc, .slice kp kq kr]
  h19 : L 19 = true → t89 = .slice zo zn zc ∧ OwnP 53 w0.heap.size w (.slice zo zn zc) C
  h20 : L 20 = true → t90 = .bool true
  h21 : L 21 = true → t91 = .bool true
  h22 : L 22 = true → t6 = .bool true
  h10 : L 10 = true → t80 = .slice (some ⟨bq, 0, none⟩) 1 1
  h11 : L 11 = true → t81 = .slice so sn sc
  h17 : L 17 = true → t87 = .slice (some ⟨br, 0, none⟩) 2 2
  h18 : L 18 = true → t88 = .slice yo yn yc
  p8 : L 8 = true → L 11 = false → OwnE tiE 24 w0.heap.size w (.slice ao l.length ac) l
  d8 : L 8 = true → L 17 = true → L 11 = false → ∀ g, (Value.slice ao l.length ac).ownBlock = some g → g ≠ br
  p10 : L 10 = true → L 11 = false → Blk w bq #[.slice eo en ec, .slice ep eq er] 24
  p11 : L 11 = true → L 12 = false → SegT w (.slice so sn sc) (LO ++ [J])
  p14 : L 14 = true → L 18 = false → OwnE tiE 24 w0.heap.size w (.slice bo l.length bc) l
  p17 : L 17 = true → L 18 = false → Blk w br #[.slice fo fn fc, .slice fp fq fr, .slice ko kn kc, .slice kp kq kr] 24
  p18 : L 18 = true → L 19 = false → SegT w (.slice yo yn yc) (LO ++ [t, u])
  s11 : L 11 = true → L 8 = true ∧ L 10 = true
  s12 : L 12 = true → L 11 = true
  s14 : L 14 = true → L 12 = true
  s18 : L 18 = true → L 14 = true ∧ L 17 = true
  s19 : L 19 = true → L 18 = true
def MZV (w0 : World) (b7 b8 b14 g3 g4 nl q1 : Nat) (q0 : Option Addr) (eo : Option Addr) (en ec : Nat) (ep : Option Addr) (eq er : Nat) (fo : Option Addr) (fn fc : Nat) (fp : Option Addr) (fq fr : Nat) (ko : Option Addr) (kn kc : Nat) (kp : Option Addr) (kq kr : Nat) (vo0 : Option Addr) (vn0 vc0 : Nat) (vp0 : Option Addr) (vq0 vr0 : Nat) (wo0 : Option Addr) (wn0 wc0 : Nat) (wp0 : Option Addr) (wq0 wr0 : Nat) (oo : Option Addr) (on oc : Nat) (s10 s11 s12 s16 s17 s18 s19 s20 s21 s22 s23 s24 s25 s26 s27 s28 s29 s30 s31 s32 s33 s34 s35 s36 s37 s38 s39 s40 s41 s42 s43 s44 s45 s46 s47 s48 s49 s50 s51 s52 s53 s54 s55 s56 s57 s58 s59 s60 s61 s62 s63 s64 s65 s66 s67 s68 s69 : Value) (l : List Ti) (LO : List Tr) (J t u : Tr) (C : List Pr) (L : Nat → Bool) (a : Act) (X : World) : Prop :=
  ∃ t6 t70 t71 t72 t73 t74 t75 t76 t77 t78 t79 t80 t81 t82 t83 t84 t85 t86 t87 t88 t89 t90 t91 ao ac bo bc xo xn xc zo zn zc so sn sc yo yn yc bq br, a = { tmps := #[.agg #[.slice vo0 vn0 vc0, .slice vp0 vq0 vr0], .agg #[.slice wo0 wn0 wc0, .slice wp0 wq0 wr0], .slice oo on oc, .pointer (some ⟨g3, 0, none⟩), .pointer (some ⟨g4, 0, none⟩), undef, t6, .pointer (some ⟨b7, 0, none⟩), .pointer (some ⟨b8, 0, none⟩), .slice q0 nl q1, s10, s11, s12, .int .i64 0, .pointer (some ⟨b14, 0, none⟩), .int .i64 0, s16, s17, s18, s19, s20, s21, s22, s23, s24, s25, s26, s27, s28, s29, s30, s31, s32, s33, s34, s35, s36, s37, s38, s39, s40, s41, s42, s43, s44, s45, s46, s47, s48, s49, s50, s51, s52, s53, s54, s55, s56, s57, s58, s59, s60, s61, s62, s63, s64, s65, s66, s67, s68, s69, t70, t71, t72, t73, t74, t75, t76, t77, t78, t79, t80, t81, t82, t83, t84, t85, t86, t87, t88, t89, t90, t91], defers := [] } ∧ MZI w0 b7 b8 b14 g3 g4 nl q1 q0 eo en ec ep eq er fo fn fc fp fq fr ko kn kc kp kq kr vo0 vn0 vc0 vp0 vq0 vr0 wo0 wn0 wc0 wp0 wq0 wr0 oo on oc s10 s11 s12 s16 s17 s18 s19 s20 s21 s22 s23 s24 s25 s26 s27 s28 s29 s30 s31 s32 s33 s34 s35 s36 s37 s38 s39 s40 s41 s42 s43 s44 s45 s46 s47 s48 s49 s50 s51 s52 s53 s54 s55 s56 s57 s58 s59 s60 s61 s62 s63 s64 s65 s66 s67 s68 s69 l LO J t u C L X t6 t70 t71 t72 t73 t74 t75 t76 t77 t78 t79 t80 t81 t82 t83 t84 t85 t86 t87 t88 t89 t90 t91 ao ac bo bc xo xn xc zo zn zc so sn sc yo yn yc bq br
set_option maxRecDepth 100000 in
set_option maxHeartbeats 16000000 in
theorem MZ_region {Q : Exit → Act → World → Prop} (w0 : World) (b7 b8 b14 g3 g4 nl q1 : Nat) (q0 : Option Addr) (eo : Option Addr) (en ec : Nat) (ep : Option Addr) (eq er : Nat) (fo : Option Addr) (fn fc : Nat) (fp : Option Addr) (fq fr : Nat) (ko : Option Addr) (kn kc : Nat) (kp : Option Addr) (kq kr : Nat) (vo0 : Option Addr) (vn0 vc0 : Nat) (vp0 : Option Addr) (vq0 vr0 : Nat) (wo0 : Option Addr) (wn0 wc0 : Nat) (wp0 : Option Addr) (wq0 wr0 : Nat) (oo : Option Addr) (on oc : Nat) (s10 s11 s12 s16 s17 s18 s19 s20 s21 s22 s23 s24 s25 s26 s27 s28 s29 s30 s31 s32 s33 s34 s35 s36 s37 s38 s39 s40 s41 s42 s43 s44 s45 s46 s47 s48 s49 s50 s51 s52 s53 s54 s55 s56 s57 s58 s59 s60 s61 s62 s63 s64 s65 s66 s67 s68 s69 : Value) (l : List Ti) (LO : List Tr) (J t u : Tr) (C : List Pr) (W : World) (a : Act) (ha : a = { tmps := #[.agg #[.slice vo0 vn0 vc0, .slice vp0 vq0 vr0], .agg #[.slice wo0 wn0 wc0, .slice wp0 wq0 wr0], .slice oo on oc, .pointer (some ⟨g3, 0, none⟩), .pointer (some ⟨g4, 0, none⟩), undef, .bool false, .pointer (some ⟨b7, 0, none⟩), .pointer (some ⟨b8, 0, none⟩), .slice q0 nl q1, s10, s11, s12, .int .i64 0, .pointer (some ⟨b14, 0, none⟩), .int .i64 0, s16, s17, s18, s19, s20, s21, s22, s23, s24, s25, s26, s27, s28, s29, s30, s31, s32, s33, s34, s35, s36, s37, s38, s39, s40, s41, s42, s43, s44, s45, s46, s47, s48, s49, s50, s51, s52, s53, s54, s55, s56, s57, s58, s59, s60, s61, s62, s63, s64, s65, s66, s67, s68, s69, undef, undef, undef, undef, undef, undef, undef, undef, undef, undef, undef, undef, undef, undef, undef, undef, undef, undef, undef, undef, undef, undef], defers := [] }) (hlow : Below w0.heap.size w0 W)
    (h7 : b7 < w0.heap.size) (h8 : b8 < w0.heap.size) (h14 : b14 < w0.heap.size) (K7 : Hid (Blk w0 b7 #[.slice fo fn fc, .slice fp fq fr] 24)) (K8 : Hid (Blk w0 b8 #[.slice ko kn kc, .slice kp kq kr] 24)) (K14 : Hid (Blk w0 b14 #[.slice eo en ec, .slice ep eq er] 24))
    (hLl : l.length ≤ 26) (hll : l.length = LO.length) (htl : ∀ i (h : i < l.length) (h' : i < LO.length), TR w0 l[i] LO[i]) (htj : TR w0 ⟨eo, en, ec, ep, eq, er⟩ J) (htw : ∀ i (_ : i < [(⟨fo, fn, fc, fp, fq, fr⟩ : Ti), ⟨ko, kn, kc, kp, kq, kr⟩].length) (_ : i < [t, u].length), TR w0 [(⟨fo, fn, fc, fp, fq, fr⟩ : Ti), ⟨ko, kn, kc, kp, kq, kr⟩][i] [t, u][i])
    (HCL : Hid (∀ W, Below w0.heap.size w0 W → Calls Try.prog 27 #[.slice q0 nl q1] W fun e w' => ∃ v', e = .returned v' ∧ OwnE tiE 24 W.heap.size w' v' l ∧ Below W.heap.size W w'))
    (HC1 : Hid (∀ W v, SegT W v (LO ++ [J]) → Calls Try.prog 29 #[v] W fun e w' => ∃ v', e = .returned v' ∧ OwnP 53 W.heap.size w' v' C ∧ Below W.heap.size W w'))
    (HC2 : Hid (∀ W v, SegT W v (LO ++ [t, u]) → Calls Try.prog 29 #[v] W fun e w' => ∃ v', e = .returned v' ∧ OwnP 53 W.heap.size w' v' C ∧ Below W.heap.size W w'))
    (hQ : ∀ L t6 t70 t71 t72 t73 t74 t75 t76 t77 t78 t79 t80 t81 t82 t83 t84 t85 t86 t87 t88 t89 t90 t91 ao ac bo bc xo xn xc zo zn zc so sn sc yo yn yc bq br X, (∀ i, i < 23 → L i = true) → MZI w0 b7 b8 b14 g3 g4 nl q1 q0 eo en ec ep eq er fo fn fc fp fq fr ko kn kc kp kq kr vo0 vn0 vc0 vp0 vq0 vr0 wo0 wn0 wc0 wp0 wq0 wr0 oo on oc s10 s11 s12 s16 s17 s18 s19 s20 s21 s22 s23 s24 s25 s26 s27 s28 s29 s30 s31 s32 s33 s34 s35 s36 s37 s38 s39 s40 s41 s42 s43 s44 s45 s46 s47 s48 s49 s50 s51 s52 s53 s54 s55 s56 s57 s58 s59 s60 s61 s62 s63 s64 s65 s66 s67 s68 s69 l LO J t u C L X t6 t70 t71 t72 t73 t74 t75 t76 t77 t78 t79 t80 t81 t82 t83 t84 t85 t86 t87 t88 t89 t90 t91 ao ac bo bc xo xn xc zo zn zc so sn sc yo yn yc bq br → Q .normal { tmps := #[.agg #[.slice vo0 vn0 vc0, .slice vp0 vq0 vr0], .agg #[.slice wo0 wn0 wc0, .slice wp0 wq0 wr0], .slice oo on oc, .pointer (some ⟨g3, 0, none⟩), .pointer (some ⟨g4, 0, none⟩), undef, t6, .pointer (some ⟨b7, 0, none⟩), .pointer (some ⟨b8, 0, none⟩), .slice q0 nl q1, s10, s11, s12, .int .i64 0, .pointer (some ⟨b14, 0, none⟩), .int .i64 0, s16, s17, s18, s19, s20, s21, s22, s23, s24, s25, s26, s27, s28, s29, s30, s31, s32, s33, s34, s35, s36, s37, s38, s39, s40, s41, s42, s43, s44, s45, s46, s47, s48, s49, s50, s51, s52, s53, s54, s55, s56, s57, s58, s59, s60, s61, s62, s63, s64, s65, s66, s67, s68, s69, t70, t71, t72, t73, t74, t75, t76, t77, t78, t79, t80, t81, t82, t83, t84, t85, t86, t87, t88, t89, t90, t91], defers := [] } X) :
    (Code.region 17 #[{ dst := some 70, op := Op.move (Operand.tmp 13), type := 30, pos := "outright.go:90", after := #[], guard := none }, { dst := some 71, op := Op.binOp BinOp.eql 30 (Operand.tmp 70) (Operand.const (Value.int IntKind.i64 0)) 30, type := 4, pos := "outright.go:90", after := #[{ on := 0, ground := Ground.data }], guard := none }, { dst := some 72, op := Op.move (Operand.tmp 71), type := 4, pos := "outright.go:90", after := #[{ on := 1, ground := Ground.data }], guard := none }, { dst := some 73, op := Op.move (Operand.tmp 15), type := 30, pos := "outright.go:90", after := #[{ on := 2, ground := Ground.guard }], guard := some (2, true) }, { dst := some 74, op := Op.binOp BinOp.eql 30 (Operand.tmp 73) (Operand.const (Value.int IntKind.i64 0)) 30, type := 4, pos := "outright.go:90", after := #[{ on := 3, ground := Ground.data }, { on := 2, ground := Ground.guard }], guard := some (2, true) }, { dst := some 75, op := Op.pick (Operand.tmp 72) (Operand.tmp 74) (Operand.const (Value.bool false)), type := 4, pos := "outright.go:90", after := #[{ on := 2, ground := Ground.data }, { on := 4, ground := Ground.data }], guard := none }, { dst := some 76, op := Op.move (Operand.tmp 75), type := 4, pos := "outright.go:90", after := #[{ on := 5, ground := Ground.data }, { on := 2, ground := Ground.chain }], guard := none }, { dst := some 77, op := Op.move (Operand.tmp 9), type := 45, pos := "outright.go:90", after := #[{ on := 6, ground := Ground.guard }], guard := some (6, true) }, { dst := some 78, op := Op.call { callee := Callee.value (Operand.func 27), args := #[Operand.tmp 77], argTypes := #[45] }, type := 45, pos := "outright.go:90", after := #[{ on := 7, ground := Ground.data }, { on := 6, ground := Ground.chain }, { on := 6, ground := Ground.guard }], guard := some (6, true) }, { dst := some 79, op := Op.load 24 (Operand.tmp 14), type := 24, pos := "outright.go:90", after := #[{ on := 6, ground := Ground.guard }], guard := some (6, true) }, { dst := some 80, op := Op.buildSlice 45 1 #[(0, Operand.tmp 79)], type := 45, pos := "outright.go:90", after := #[{ on := 9, ground := Ground.data }, { on := 6, ground := Ground.guard }], guard := some (6, true) }, { dst := some 81, op := Op.call { callee := Callee.builtin Builtin.append, args := #[Operand.tmp 78, Operand.tmp 80], argTypes := #[45, 45] }, type := 45, pos := "outright.go:90", after := #[{ on := 8, ground := Ground.data }, { on := 10, ground := Ground.data }, { on := 8, ground := Ground.chain }, { on := 6, ground := Ground.guard }], guard := some (6, true) }, { dst := some 82, op := Op.call { callee := Callee.value (Operand.func 29), args := #[Operand.tmp 81], argTypes := #[45] }, type := 22, pos := "outright.go:90", after := #[{ on := 11, ground := Ground.data }, { on := 11, ground := Ground.chain }, { on := 6, ground := Ground.guard }], guard := some (6, true) }, { dst := some 83, op := Op.move (Operand.tmp 9), type := 45, pos := "outright.go:90", after := #[{ on := 6, ground := Ground.guard }], guard := some (6, true) }, { dst := some 84, op := Op.call { callee := Callee.value (Operand.func 27), args := #[Operand.tmp 83], argTypes := #[45] }, type := 45, pos := "outright.go:90", after := #[{ on := 13, ground := Ground.data }, { on := 12, ground := Ground.chain }, { on := 6, ground := Ground.guard }], guard := some (6, true) }, { dst := some 85, op := Op.load 24 (Operand.tmp 7), type := 24, pos := "outright.go:90", after := #[{ on := 6, ground := Ground.guard }], guard := some (6, true) }, { dst := some 86, op := Op.load 24 (Operand.tmp 8), type := 24, pos := "outright.go:90", after := #[{ on := 6, ground := Ground.guard }], guard := some (6, true) }, { dst := some 87, op := Op.buildSlice 45 2 #[(0, Operand.tmp 85), (1, Operand.tmp 86)], type := 45, pos := "outright.go:90", after := #[{ on := 15, ground := Ground.data }, { on := 16, ground := Ground.data }, { on := 6, ground := Ground.guard }], guard := some (6, true) }, { dst := some 88, op := Op.call { callee := Callee.builtin Builtin.append, args := #[Operand.tmp 84, Operand.tmp 87], argTypes := #[45, 45] }, type := 45, pos := "outright.go:90", after := #[{ on := 14, ground := Ground.data }, { on := 17, ground := Ground.data }, { on := 14, ground := Ground.chain }, { on := 6, ground := Ground.guard }], guard := some (6, true) }, { dst := some 89, op := Op.call { callee := Callee.value (Operand.func 29), args := #[Operand.tmp 88], argTypes := #[45] }, type := 22, pos := "outright.go:90", after := #[{ on := 18, ground := Ground.data }, { on := 18, ground := Ground.chain }, { on := 6, ground := Ground.guard }], guard := some (6, true) }, { dst := some 90, op := Op.call { callee := Callee.value (Operand.func 28), args := #[Operand.tmp 82, Operand.tmp 89], argTypes := #[22, 22] }, type := 4, pos := "outright.go:90", after := #[{ on := 12, ground := Ground.data }, { on := 19, ground := Ground.data }, { on := 19, ground := Ground.chain }, { on := 6, ground := Ground.guard }], guard := some (6, true) }, { dst := some 91, op := Op.pick (Operand.tmp 76) (Operand.tmp 90) (Operand.const (Value.bool false)), type := 4, pos := "outright.go:90", after := #[{ on := 6, ground := Ground.data }, { on := 20, ground := Ground.data }], guard := none }, { dst := some 6, op := Op.assign (Operand.tmp 91), type := 4, pos := "outright.go:90", after := #[{ on := 21, ground := Ground.data }, { on := 20, ground := Ground.chain }, { on := 0, ground := Ground.phase }, { on := 1, ground := Ground.phase }, { on := 2, ground := Ground.phase }, { on := 3, ground := Ground.phase }, { on := 4, ground := Ground.phase }, { on := 5, ground := Ground.phase }, { on := 6, ground := Ground.phase }, { on := 7, ground := Ground.phase }, { on := 8, ground := Ground.phase }, { on := 9, ground := Ground.phase }, { on := 10, ground := Ground.phase }, { on := 11, ground := Ground.phase }, { on := 12, ground := Ground.phase }, { on := 13, ground := Ground.phase }, { on := 14, ground := Ground.phase }, { on := 15, ground := Ground.phase }, { on := 16, ground := Ground.phase }, { on := 17, ground := Ground.phase }, { on := 18, ground := Ground.phase }, { on := 19, ground := Ground.phase }, { on := 20, ground := Ground.phase }, { on := 21, ground := Ground.phase }], guard := none }] true).wp Try.prog Q a W := by
  have hmix := mixed
  refine wp_region_inv hmix (Inv := MZV w0 b7 b8 b14 g3 g4 nl q1 q0 eo en ec ep eq er fo fn fc fp fq fr ko kn kc kp kq kr vo0 vn0 vc0 vp0 vq0 vr0 wo0 wn0 wc0 wp0 wq0 wr0 oo on oc s10 s11 s12 s16 s17 s18 s19 s20 s21 s22 s23 s24 s25 s26 s27 s28 s29 s30 s31 s32 s33 s34 s35 s36 s37 s38 s39 s40 s41 s42 s43 s44 s45 s46 s47 s48 s49 s50 s51 s52 s53 s54 s55 s56 s57 s58 s59 s60 s61 s62 s63 s64 s65 s66 s67 s68 s69 l LO J t u C) (by kernel_rfl) ?h0 ?hstep ?hdone
  case h0 =>
    subst ha
    exact ⟨.bool false, undef, undef, undef, undef, undef, undef, undef, undef, undef, undef, undef, undef, undef, undef, undef, undef, undef, undef, undef, undef, undef, undef, none, 0, none, 0, none, 0, 0, none, 0, 0, none, 0, 0, none, 0, 0, 0, 0, rfl, ⟨hlow.drew, nofun, nofun, nofun, nofun, nofun, nofun, nofun, nofun, nofun, nofun, nofun, nofun, nofun, nofun, nofun, nofun, nofun, nofun, nofun, nofun, nofun, nofun, nofun, nofun, nofun, nofun, nofun, nofun, nofun, nofun, nofun, nofun, nofun, nofun, nofun⟩⟩
  case hdone =>
    rintro L a X ⟨t6, t70, t71, t72, t73, t74, t75, t76, t77, t78, t79, t80, t81, t82, t83, t84, t85, t86, t87, t88, t89, t90, t91, ao, ac, bo, bc, xo, xn, xc, zo, zn, zc, so, sn, sc, yo, yn, yc, bq, br, rfl, h⟩ hall
    exact hQ L t6 t70 t71 t72 t73 t74 t75 t76 t77 t78 t79 t80 t81 t82 t83 t84 t85 t86 t87 t88 t89 t90 t91 ao ac bo bc xo xn xc zo zn zc so sn sc yo yn yc bq br X hall h
  case hstep =>
    clear hQ ha
    rintro L a X i op ⟨t6, t70, t71, t72, t73, t74, t75, t76, t77, t78, t79, t80, t81, t82, t83, t84, t85, t86, t87, t88, t89, t90, t91, ao, ac, bo, bc, xo, xn, xc, zo, zn, zc, so, sn, sc, yo, yn, yc, bq, br, rfl, h⟩ hL ho hp
    have hi : i < 23 := (Array.getElem?_eq_some_iff.1 ho).1
    match i, hi, hL, ho, hp with
    | 0, _, hL, ho, hp =>
      simp only [List.getElem?_toArray, List.getElem?_cons_zero, Option.some.injEq] at ho
      subst ho
      rw [if_pos (by simp [Region.wanted])]
      go_simp
      exact ⟨_, _, _, _, _, _, _, _, _, _, _, _, _, _, _, _, _, _, _, _, _, _, _, ao, ac, bo, bc, xo, xn, xc, zo, zn, zc, so, sn, sc, yo, yn, yc, bq, br, rfl, ⟨h.low, fun _ => rfl, h.h1, h.h2, h.h3, h.h4, h.h5, h.h6, h.h7, h.h8, h.h9, h.h12, h.h13, h.h14, h.h15, h.h16, h.h19, h.h20, h.h21, h.h22, h.h10, h.h11, h.h17, h.h18, h.p8, h.d8, h.p10, h.p11, h.p14, h.p17, h.p18, h.s11, h.s12, h.s14, h.s18, h.s19⟩⟩
    | 1, _, hL, ho, hp =>
      simp only [List.getElem?_toArray, List.getElem?_cons_zero, List.getElem?_cons_succ, Option.some.injEq] at ho
      subst ho
      rw [if_pos (by simp [Region.wanted])]
      have p0 : L 0 = true := hp ⟨0, .data⟩ (by simp) rfl
      obtain rfl := h.h0 p0
      go_simp
      exact ⟨_, _, _, _, _, _, _, _, _, _, _, _, _, _, _, _, _, _, _, _, _, _, _, ao, ac, bo, bc, xo, xn, xc, zo, zn, zc, so, sn, sc, yo, yn, yc, bq, br, rfl, ⟨h.low, h.h0, fun _ => rfl, h.h2, h.h3, h.h4, h.h5, h.h6, h.h7, h.h8, h.h9, h.h12, h.h13, h.h14, h.h15, h.h16, h.h19, h.h20, h.h21, h.h22, h.h10, h.h11, h.h17, h.h18, h.p8, h.d8, h.p10, h.p11, h.p14, h.p17, h.p18, h.s11, h.s12, h.s14, h.s18, h.s19⟩⟩
    | 2, _, hL, ho, hp =>
      simp only [List.getElem?_toArray, List.getElem?_cons_zero, List.getElem?_cons_succ, Option.some.injEq] at ho
      subst ho
      rw [if_pos (by simp [Region.wanted])]
      have p1 : L 1 = true := hp ⟨1, .data⟩ (by simp) rfl
      obtain rfl := h.h1 p1
      go_simp
      exact ⟨_, _, _, _, _, _, _, _, _, _, _, _, _, _, _, _, _, _, _, _, _, _, _, ao, ac, bo, bc, xo, xn, xc, zo, zn, zc, so, sn, sc, yo, yn, yc, bq, br, rfl, ⟨h.low, h.h0, h.h1, fun _ => rfl, h.h3, h.h4, h.h5, h.h6, h.h7, h.h8, h.h9, h.h12, h.h13, h.h14, h.h15, h.h16, h.h19, h.h20, h.h21, h.h22, h.h10, h.h11, h.h17, h.h18, h.p8, h.d8, h.p10, h.p11, h.p14, h.p17, h.p18, h.s11, h.s12, h.s14, h.s18, h.s19⟩⟩
    | 3, _, hL, ho, hp =>
      simp only [List.getElem?_toArray, List.getElem?_cons_zero, List.getElem?_cons_succ, Option.some.injEq] at ho
      subst ho
      have p2 : L 2 = true := hp ⟨2, .guard⟩ (by simp) rfl
      obtain rfl := h.h2 p2
      rw [if_pos (by rfl)]
      go_simp
      exact ⟨_, _, _, _, _, _, _, _, _, _, _, _, _, _, _, _, _, _, _, _, _, _, _, ao, ac, bo, bc, xo, xn, xc, zo, zn, zc, so, sn, sc, yo, yn, yc, bq, br, rfl, ⟨h.low, h.h0, h.h1, h.h2, fun _ => rfl, h.h4, h.h5, h.h6, h.h7, h.h8, h.h9, h.h12, h.h13, h.h14, h.h15, h.h16, h.h19, h.h20, h.h21, h.h22, h.h10, h.h11, h.h17, h.h18, h.p8, h.d8, h.p10, h.p11, h.p14, h.p17, h.p18, h.s11, h.s12, h.s14, h.s18, h.s19⟩⟩
    | 4, _, hL, ho, hp =>
      simp only [List.getElem?_toArray, List.getElem?_cons_zero, List.getElem?_cons_succ, Option.some.injEq] at ho
      subst ho
      have p3 : L 3 = true := hp ⟨3, .data⟩ (by simp) rfl
      obtain rfl := h.h3 p3
      have p2 : L 2 = true := hp ⟨2, .guard⟩ (by simp) rfl
      obtain rfl := h.h2 p2
      rw [if_pos (by rfl)]
      go_simp
      exact ⟨_, _, _, _, _, _, _, _, _, _, _, _, _, _, _, _, _, _, _, _, _, _, _, ao, ac, bo, bc, xo, xn, xc, zo, zn, zc, so, sn, sc, yo, yn, yc, bq, br, rfl, ⟨h.low, h.h0, h.h1, h.h2, h.h3, fun _ => rfl, h.h5, h.h6, h.h7, h.h8, h.h9, h.h12, h.h13, h.h14, h.h15, h.h16, h.h19, h.h20, h.h21, h.h22, h.h10, h.h11, h.h17, h.h18, h.p8, h.d8, h.p10, h.p11, h.p14, h.p17, h.p18, h.s11, h.s12, h.s14, h.s18, h.s19⟩⟩
    | 5, _, hL, ho, hp =>
      simp only [List.getElem?_toArray, List.getElem?_cons_zero, List.getElem?_cons_succ, Option.some.injEq] at ho
      subst ho
      rw [if_pos (by simp [Region.wanted])]
      have p2 : L 2 = true := hp ⟨2, .data⟩ (by simp) rfl
      obtain rfl := h.h2 p2
      have p4 : L 4 = true := hp ⟨4, .data⟩ (by simp) rfl
      obtain rfl := h.h4 p4
      go_simp
      exact ⟨_, _, _, _, _, _, _, _, _, _, _, _, _, _, _, _, _, _, _, _, _, _, _, ao, ac, bo, bc, xo, xn, xc, zo, zn, zc, so, sn, sc, yo, yn, yc, bq, br, rfl, ⟨h.low, h.h0, h.h1, h.h2, h.h3, h.h4, fun _ => rfl, h.h6, h.h7, h.h8, h.h9, h.h12, h.h13, h.h14, h.h15, h.h16, h.h19, h.h20, h.h21, h.h22, h.h10, h.h11, h.h17, h.h18, h.p8, h.d8, h.p10, h.p11, h.p14, h.p17, h.p18, h.s11, h.s12, h.s14, h.s18, h.s19⟩⟩
    | 6, _, hL, ho, hp =>
      simp only [List.getElem?_toArray, List.getElem?_cons_zero, List.getElem?_cons_succ, Option.some.injEq] at ho
      subst ho
      rw [if_pos (by simp [Region.wanted])]
      have p5 : L 5 = true := hp ⟨5, .data⟩ (by simp) rfl
      obtain rfl := h.h5 p5
      go_simp
      exact ⟨_, _, _, _, _, _, _, _, _, _, _, _, _, _, _, _, _, _, _, _, _, _, _, ao, ac, bo, bc, xo, xn, xc, zo, zn, zc, so, sn, sc, yo, yn, yc, bq, br, rfl, ⟨h.low, h.h0, h.h1, h.h2, h.h3, h.h4, h.h5, fun _ => rfl, h.h7, h.h8, h.h9, h.h12, h.h13, h.h14, h.h15, h.h16, h.h19, h.h20, h.h21, h.h22, h.h10, h.h11, h.h17, h.h18, h.p8, h.d8, h.p10, h.p11, h.p14, h.p17, h.p18, h.s11, h.s12, h.s14, h.s18, h.s19⟩⟩
    | 7, _, hL, ho, hp =>
      simp only [List.getElem?_toArray, List.getElem?_cons_zero, List.getElem?_cons_succ, Option.some.injEq] at ho
      subst ho
      have p6 : L 6 = true := hp ⟨6, .guard⟩ (by simp) rfl
      obtain rfl := h.h6 p6
      rw [if_pos (by rfl)]
      go_simp
      exact ⟨_, _, _, _, _, _, _, _, _, _, _, _, _, _, _, _, _, _, _, _, _, _, _, ao, ac, bo, bc, xo, xn, xc, zo, zn, zc, so, sn, sc, yo, yn, yc, bq, br, rfl, ⟨h.low, h.h0, h.h1, h.h2, h.h3, h.h4, h.h5, h.h6, fun _ => rfl, h.h8, h.h9, h.h12, h.h13, h.h14, h.h15, h.h16, h.h19, h.h20, h.h21, h.h22, h.h10, h.h11, h.h17, h.h18, h.p8, h.d8, h.p10, h.p11, h.p14, h.p17, h.p18, h.s11, h.s12, h.s14, h.s18, h.s19⟩⟩
    | 8, _, hL, ho, hp =>
      simp only [List.getElem?_toArray, List.getElem?_cons_zero, List.getElem?_cons_succ, Option.some.injEq] at ho
      subst ho
      have p7 : L 7 = true := hp ⟨7, .data⟩ (by simp) rfl
      obtain rfl := h.h7 p7
      have p6 : L 6 = true := hp ⟨6, .guard⟩ (by simp) rfl
      obtain rfl := h.h6 p6
      rw [if_pos (by rfl)]
      go_simp
      go_at_call 27
      (with_reducible refine (HCL.out _ h.low).mono ?_)
      rintro e X2 ⟨q, rfl, hq, gb⟩
      obtain ⟨qo, qc, rfl⟩ := hq.shape
      have hsz := h.low.size
      have hlow2 := below_later h.low gb
      have e11 : L 11 = false := by
        cases c : L 11 with
        | false => rfl
        | true => exact absurd (h.s11 c).1 (by rw [hL]; decide)
      have e18 : L 18 = false := by
        cases c : L 18 with
        | false => rfl
        | true => exact absurd (h.s12 (h.s14 (h.s18 c).1)) (by rw [e11]; decide)
      exact ⟨_, _, _, _, _, _, _, _, _, _, _, _, _, _, _, _, _, _, _, _, _, _, _, qo, qc, bo, bc, xo, xn, xc, zo, zn, zc, so, sn, sc, yo, yn, yc, bq, br, rfl, ⟨hlow2, h.h0, h.h1, h.h2, h.h3, h.h4, h.h5, h.h6, h.h7, fun _ => rfl, h.h9, fun e => ⟨(h.h12 e).1, (h.h12 e).2.later gb⟩, h.h13, h.h14, h.h15, h.h16, fun e => ⟨(h.h19 e).1, (h.h19 e).2.later gb⟩, h.h20, h.h21, h.h22, h.h10, h.h11, h.h17, h.h18, fun _ _ => hq.mono hsz, fun _ e _ g hg => by have := (hq.lt g hg).1; have := (h.p17 e e18).lt; omega, fun e e2 => (h.p10 e e2).later gb, fun e e2 => (h.p11 e e2).later gb, fun e e2 => (h.p14 e e2).later gb, fun e e2 => (h.p17 e e2).later gb, fun e e2 => (h.p18 e e2).later gb, fun e => absurd (h.s11 e).1 (by rw [hL]; decide), h.s12, h.s14, h.s18, h.s19⟩⟩
    | 9, _, hL, ho, hp =>
      simp only [List.getElem?_toArray, List.getElem?_cons_zero, List.getElem?_cons_succ, Option.some.injEq] at ho
      subst ho
      have p6 : L 6 = true := hp ⟨6, .guard⟩ (by simp) rfl
      obtain rfl := h.h6 p6
      rw [if_pos (by rfl)]
      have kk := K14.out.below h.low h14
      have cc0 := kk.cell 0
      have cc1 := kk.cell 1
      have ll := kk.lt
      simp only [List.getElem?_toArray, List.getElem?_cons_zero, List.getElem?_cons_succ] at cc0 cc1
      go_simp
      exact ⟨_, _, _, _, _, _, _, _, _, _, _, _, _, _, _, _, _, _, _, _, _, _, _, ao, ac, bo, bc, xo, xn, xc, zo, zn, zc, so, sn, sc, yo, yn, yc, bq, br, rfl, ⟨h.low, h.h0, h.h1, h.h2, h.h3, h.h4, h.h5, h.h6, h.h7, h.h8, fun _ => rfl, h.h12, h.h13, h.h14, h.h15, h.h16, h.h19, h.h20, h.h21, h.h22, h.h10, h.h11, h.h17, h.h18, h.p8, h.d8, h.p10, h.p11, h.p14, h.p17, h.p18, h.s11, h.s12, h.s14, h.s18, h.s19⟩⟩
    | 10, _, hL, ho, hp =>
      simp only [List.getElem?_toArray, List.getElem?_cons_zero, List.getElem?_cons_succ, Option.some.injEq] at ho
      subst ho
      have p9 : L 9 = true := hp ⟨9, .data⟩ (by simp) rfl
      obtain rfl := h.h9 p9
      have p6 : L 6 = true := hp ⟨6, .guard⟩ (by simp) rfl
      obtain rfl := h.h6 p6
      rw [if_pos (by rfl)]
      go_simp
      have gb := (Gr.alloc X (.cells #[.slice eo en ec, .slice ep eq er] 24)).below
      exact ⟨_, _, _, _, _, _, _, _, _, _, _, _, _, _, _, _, _, _, _, _, _, _, _, ao, ac, bo, bc, xo, xn, xc, zo, zn, zc, so, sn, sc, yo, yn, yc, X.heap.size, br, rfl, ⟨below_later h.low gb, h.h0, h.h1, h.h2, h.h3, h.h4, h.h5, h.h6, h.h7, h.h8, h.h9, fun e => ⟨(h.h12 e).1, (h.h12 e).2.later gb⟩, h.h13, h.h14, h.h15, h.h16, fun e => ⟨(h.h19 e).1, (h.h19 e).2.later gb⟩, h.h20, h.h21, h.h22, fun _ => rfl, h.h11, h.h17, h.h18, fun e e2 => (h.p8 e e2).later gb, h.d8, fun _ _ => Blk.new _ _ _, fun e e2 => (h.p11 e e2).later gb, fun e e2 => (h.p14 e e2).later gb, fun e e2 => (h.p17 e e2).later gb, fun e e2 => (h.p18 e e2).later gb, fun e => absurd (h.s11 e).2 (by rw [hL]; decide), h.s12, h.s14, h.s18, h.s19⟩⟩
    | 11, _, hL, ho, hp =>
      simp only [List.getElem?_toArray, List.getElem?_cons_zero, List.getElem?_cons_succ, Option.some.injEq] at ho
      subst ho
      have p8 : L 8 = true := hp ⟨8, .chain⟩ (by simp) rfl
      obtain rfl := h.h8 p8
      have p10 : L 10 = true := hp ⟨10, .data⟩ (by simp) rfl
      obtain rfl := h.h10 p10
      have p6 : L 6 = true := hp ⟨6, .guard⟩ (by simp) rfl
      obtain rfl := h.h6 p6
      rw [if_pos (by rfl)]
      obtain ⟨i0, hi0, hz0, hz1, hz2⟩ := infoT
      have hown := h.p8 p8 hL
      have hblk := h.p10 p10 hL
      refine wp_append_segE (E := tiE) _ _ 45 (by rfl) w0.heap.size 24 i0 (.agg #[.slice none 0 0, .slice none 0 0]) 48 Try.underlying45 hi0 hz0 hz1 hz2 rfl _ l (by rfl) hown _ [⟨eo, en, ec, ep, eq, er⟩] (by rfl) (SegE.of_blk (E := tiE) (l := [⟨eo, en, ec, ep, eq, er⟩]) (cap := 1) hblk (by simp) (by decide) rfl) (by simp) (by show (_ + 1) * 2 ≤ _; omega) (by show (_ + 1) * 48 ≤ _; omega) h.low.size ?_
      intro v' w3 hO3 hb3 hg3
      have hlw : Below w0.heap.size w0 w3 := h.low.trans hb3
      obtain ⟨zo', zc', rfl⟩ := hO3.shape
      have hseg : SegT w3 (.slice zo' (l ++ ([⟨eo, en, ec, ep, eq, er⟩] : List Ti)).length zc') (LO ++ [J]) := segT_app hll htl rfl (tr_one htj) (hlw) hO3.seg
      exact ⟨_, _, _, _, _, _, _, _, _, _, _, _, _, _, _, _, _, _, _, _, _, _, _, ao, ac, bo, bc, xo, xn, xc, zo, zn, zc, zo', _, zc', yo, yn, yc, bq, br, rfl, ⟨hlw, h.h0, h.h1, h.h2, h.h3, h.h4, h.h5, h.h6, h.h7, h.h8, h.h9, fun e => absurd (h.s12 e) (by rw [hL]; decide), h.h13, h.h14, h.h15, h.h16, fun e => absurd (h.s12 (h.s14 (h.s18 (h.s19 e)).1)) (by rw [hL]; decide), h.h20, h.h21, h.h22, h.h10, fun _ => rfl, h.h17, h.h18, fun _ e => absurd ((upd_same L 11).symm.trans e) (by decide), fun _ _ e => absurd ((upd_same L 11).symm.trans e) (by decide), fun _ e => absurd ((upd_same L 11).symm.trans e) (by decide), fun _ _ => hseg, fun e _ => absurd (h.s12 (h.s14 e)) (by rw [hL]; decide), fun e e2 => (hg3.block _ (h.p17 e e2).lt (fun c => h.d8 p8 e hL _ c.symm rfl)).trans (h.p17 e e2), fun e _ => absurd (h.s12 (h.s14 (h.s18 e).1)) (by rw [hL]; decide), fun _ => ⟨p8, p10⟩, fun e => absurd (h.s12 e) (by rw [hL]; decide), h.s14, h.s18, h.s19⟩⟩
    | 12, _, hL, ho, hp =>
      simp only [List.getElem?_toArray, List.getElem?_cons_zero, List.getElem?_cons_succ, Option.some.injEq] at ho
      subst ho
      have p11 : L 11 = true := hp ⟨11, .chain⟩ (by simp) rfl
      obtain rfl := h.h11 p11
      have p6 : L 6 = true := hp ⟨6, .guard⟩ (by simp) rfl
      obtain rfl := h.h6 p6
      rw [if_pos (by rfl)]
      go_simp
      go_at_call 29
      (with_reducible refine (HC1.out X _ (h.p11 p11 hL)).mono ?_)
      rintro e X2 ⟨q, rfl, hq, gb⟩
      obtain ⟨qo, qn, qc, rfl⟩ := hq.any
      have hsz := h.low.size
      have hlow2 := below_later h.low gb
      exact ⟨_, _, _, _, _, _, _, _, _, _, _, _, _, _, _, _, _, _, _, _, _, _, _, ao, ac, bo, bc, qo, qn, qc, zo, zn, zc, so, sn, sc, yo, yn, yc, bq, br, rfl, ⟨hlow2, h.h0, h.h1, h.h2, h.h3, h.h4, h.h5, h.h6, h.h7, h.h8, h.h9, fun _ => ⟨rfl, hq.mono hsz⟩, h.h13, h.h14, h.h15, h.h16, fun e => ⟨(h.h19 e).1, (h.h19 e).2.later gb⟩, h.h20, h.h21, h.h22, h.h10, h.h11, h.h17, h.h18, fun e e2 => (h.p8 e e2).later gb, h.d8, fun e e2 => (h.p10 e e2).later gb, fun _ e => absurd ((upd_same L 12).symm.trans e) (by decide), fun e e2 => (h.p14 e e2).later gb, fun e e2 => (h.p17 e e2).later gb, fun e e2 => (h.p18 e e2).later gb, h.s11, fun _ => p11, fun e => absurd (h.s14 e) (by rw [hL]; decide), h.s18, h.s19⟩⟩
    | 13, _, hL, ho, hp =>
      simp only [List.getElem?_toArray, List.getElem?_cons_zero, List.getElem?_cons_succ, Option.some.injEq] at ho
      subst ho
      have p6 : L 6 = true := hp ⟨6, .guard⟩ (by simp) rfl
      obtain rfl := h.h6 p6
      rw [if_pos (by rfl)]
      go_simp
      exact ⟨_, _, _, _, _, _, _, _, _, _, _, _, _, _, _, _, _, _, _, _, _, _, _, ao, ac, bo, bc, xo, xn, xc, zo, zn, zc, so, sn, sc, yo, yn, yc, bq, br, rfl, ⟨h.low, h.h0, h.h1, h.h2, h.h3, h.h4, h.h5, h.h6, h.h7, h.h8, h.h9, h.h12, fun _ => rfl, h.h14, h.h15, h.h16, h.h19, h.h20, h.h21, h.h22, h.h10, h.h11, h.h17, h.h18, h.p8, h.d8, h.p10, h.p11, h.p14, h.p17, h.p18, h.s11, h.s12, h.s14, h.s18, h.s19⟩⟩
    | 14, _, hL, ho, hp =>
      simp only [List.getElem?_toArray, List.getElem?_cons_zero, List.getElem?_cons_succ, Option.some.injEq] at ho
      subst ho
      have p13 : L 13 = true := hp ⟨13, .data⟩ (by simp) rfl
      obtain rfl := h.h13 p13
      have p12 : L 12 = true := hp ⟨12, .chain⟩ (by simp) rfl
      obtain ⟨rfl, hd12⟩ := h.h12 p12
      have p6 : L 6 = true := hp ⟨6, .guard⟩ (by simp) rfl
      obtain rfl := h.h6 p6
      rw [if_pos (by rfl)]
      go_simp
      go_at_call 27
      (with_reducible refine (HCL.out _ h.low).mono ?_)
      rintro e X2 ⟨q, rfl, hq, gb⟩
      obtain ⟨qo, qc, rfl⟩ := hq.shape
      have hsz := h.low.size
      have hlow2 := below_later h.low gb
      exact ⟨_, _, _, _, _, _, _, _, _, _, _, _, _, _, _, _, _, _, _, _, _, _, _, ao, ac, qo, qc, xo, xn, xc, zo, zn, zc, so, sn, sc, yo, yn, yc, bq, br, rfl, ⟨hlow2, h.h0, h.h1, h.h2, h.h3, h.h4, h.h5, h.h6, h.h7, h.h8, h.h9, fun e => ⟨(h.h12 e).1, (h.h12 e).2.later gb⟩, h.h13, fun _ => rfl, h.h15, h.h16, fun e => ⟨(h.h19 e).1, (h.h19 e).2.later gb⟩, h.h20, h.h21, h.h22, h.h10, h.h11, h.h17, h.h18, fun e e2 => (h.p8 e e2).later gb, h.d8, fun e e2 => (h.p10 e e2).later gb, fun e e2 => (h.p11 e e2).later gb, fun _ _ => hq.mono hsz, fun e e2 => (h.p17 e e2).later gb, fun e _ => absurd (h.s18 e).1 (by rw [hL]; decide), h.s11, h.s12, fun _ => p12, fun e => absurd (h.s18 e).1 (by rw [hL]; decide), h.s19⟩⟩
    | 15, _, hL, ho, hp =>
      simp only [List.getElem?_toArray, List.getElem?_cons_zero, List.getElem?_cons_succ, Option.some.injEq] at ho
      subst ho
      have p6 : L 6 = true := hp ⟨6, .guard⟩ (by simp) rfl
      obtain rfl := h.h6 p6
      rw [if_pos (by rfl)]
      have kk := K7.out.below h.low h7
      have cc0 := kk.cell 0
      have cc1 := kk.cell 1
      have ll := kk.lt
      simp only [List.getElem?_toArray, List.getElem?_cons_zero, List.getElem?_cons_succ] at cc0 cc1
      go_simp
      exact ⟨_, _, _, _, _, _, _, _, _, _, _, _, _, _, _, _, _, _, _, _, _, _, _, ao, ac, bo, bc, xo, xn, xc, zo, zn, zc, so, sn, sc, yo, yn, yc, bq, br, rfl, ⟨h.low, h.h0, h.h1, h.h2, h.h3, h.h4, h.h5, h.h6, h.h7, h.h8, h.h9, h.h12, h.h13, h.h14, fun _ => rfl, h.h16, h.h19, h.h20, h.h21, h.h22, h.h10, h.h11, h.h17, h.h18, h.p8, h.d8, h.p10, h.p11, h.p14, h.p17, h.p18, h.s11, h.s12, h.s14, h.s18, h.s19⟩⟩
    | 16, _, hL, ho, hp =>
      simp only [List.getElem?_toArray, List.getElem?_cons_zero, List.getElem?_cons_succ, Option.some.injEq] at ho
      subst ho
      have p6 : L 6 = true := hp ⟨6, .guard⟩ (by simp) rfl
      obtain rfl := h.h6 p6
      rw [if_pos (by rfl)]
      have kk := K8.out.below h.low h8
      have cc0 := kk.cell 0
      have cc1 := kk.cell 1
      have ll := kk.lt
      simp only [List.getElem?_toArray, List.getElem?_cons_zero, List.getElem?_cons_succ] at cc0 cc1
      go_simp
      exact ⟨_, _, _, _, _, _, _, _, _, _, _, _, _, _, _, _, _, _, _, _, _, _, _, ao, ac, bo, bc, xo, xn, xc, zo, zn, zc, so, sn, sc, yo, yn, yc, bq, br, rfl, ⟨h.low, h.h0, h.h1, h.h2, h.h3, h.h4, h.h5, h.h6, h.h7, h.h8, h.h9, h.h12, h.h13, h.h14, h.h15, fun _ => rfl, h.h19, h.h20, h.h21, h.h22, h.h10, h.h11, h.h17, h.h18, h.p8, h.d8, h.p10, h.p11, h.p14, h.p17, h.p18, h.s11, h.s12, h.s14, h.s18, h.s19⟩⟩
    | 17, _, hL, ho, hp =>
      simp only [List.getElem?_toArray, List.getElem?_cons_zero, List.getElem?_cons_succ, Option.some.injEq] at ho
      subst ho
      have p15 : L 15 = true := hp ⟨15, .data⟩ (by simp) rfl
      obtain rfl := h.h15 p15
      have p16 : L 16 = true := hp ⟨16, .data⟩ (by simp) rfl
      obtain rfl := h.h16 p16
      have p6 : L 6 = true := hp ⟨6, .guard⟩ (by simp) rfl
      obtain rfl := h.h6 p6
      rw [if_pos (by rfl)]
      go_simp
      have gb := (Gr.alloc X (.cells #[.slice fo fn fc, .slice fp fq fr, .slice ko kn kc, .slice kp kq kr] 24)).below
      exact ⟨_, _, _, _, _, _, _, _, _, _, _, _, _, _, _, _, _, _, _, _, _, _, _, ao, ac, bo, bc, xo, xn, xc, zo, zn, zc, so, sn, sc, yo, yn, yc, bq, X.heap.size, rfl, ⟨below_later h.low gb, h.h0, h.h1, h.h2, h.h3, h.h4, h.h5, h.h6, h.h7, h.h8, h.h9, fun e => ⟨(h.h12 e).1, (h.h12 e).2.later gb⟩, h.h13, h.h14, h.h15, h.h16, fun e => ⟨(h.h19 e).1, (h.h19 e).2.later gb⟩, h.h20, h.h21, h.h22, h.h10, h.h11, fun _ => rfl, h.h18, fun e e2 => (h.p8 e e2).later gb, fun e _ e2 g hg => by have := ((h.p8 e e2).lt g hg).2; omega, fun e e2 => (h.p10 e e2).later gb, fun e e2 => (h.p11 e e2).later gb, fun e e2 => (h.p14 e e2).later gb, fun _ _ => Blk.new _ _ _, fun e _ => absurd (h.s18 e).2 (by rw [hL]; decide), h.s11, h.s12, h.s14, fun e => absurd (h.s18 e).2 (by rw [hL]; decide), h.s19⟩⟩
    | 18, _, hL, ho, hp =>
      simp only [List.getElem?_toArray, List.getElem?_cons_zero, List.getElem?_cons_succ, Option.some.injEq] at ho
      subst ho
      have p14 : L 14 = true := hp ⟨14, .chain⟩ (by simp) rfl
      obtain rfl := h.h14 p14
      have p17 : L 17 = true := hp ⟨17, .data⟩ (by simp) rfl
      obtain rfl := h.h17 p17
      have p6 : L 6 = true := hp ⟨6, .guard⟩ (by simp) rfl
      obtain rfl := h.h6 p6
      rw [if_pos (by rfl)]
      obtain ⟨i0, hi0, hz0, hz1, hz2⟩ := infoT
      have hown := h.p14 p14 hL
      have hblk := h.p17 p17 hL
      refine wp_append_segE (E := tiE) _ _ 45 (by rfl) w0.heap.size 24 i0 (.agg #[.slice none 0 0, .slice none 0 0]) 48 Try.underlying45 hi0 hz0 hz1 hz2 rfl _ l (by rfl) hown _ [⟨fo, fn, fc, fp, fq, fr⟩, ⟨ko, kn, kc, kp, kq, kr⟩] (by rfl) (SegE.of_blk (E := tiE) (l := [⟨fo, fn, fc, fp, fq, fr⟩, ⟨ko, kn, kc, kp, kq, kr⟩]) (cap := 2) hblk (by simp) (by decide) rfl) (by simp) (by show (_ + 2) * 2 ≤ _; omega) (by show (_ + 2) * 48 ≤ _; omega) h.low.size ?_
      intro v' w3 hO3 hb3 hg3
      have hlw : Below w0.heap.size w0 w3 := h.low.trans hb3
      obtain ⟨zo', zc', rfl⟩ := hO3.shape
      have hseg : SegT w3 (.slice zo' (l ++ ([⟨fo, fn, fc, fp, fq, fr⟩, ⟨ko, kn, kc, kp, kq, kr⟩] : List Ti)).length zc') (LO ++ [t, u]) := segT_app hll htl rfl htw (hlw) hO3.seg
      exact ⟨_, _, _, _, _, _, _, _, _, _, _, _, _, _, _, _, _, _, _, _, _, _, _, ao, ac, bo, bc, xo, xn, xc, zo, zn, zc, so, sn, sc, zo', _, zc', bq, br, rfl, ⟨hlw, h.h0, h.h1, h.h2, h.h3, h.h4, h.h5, h.h6, h.h7, h.h8, h.h9, fun e => ⟨(h.h12 e).1, (h.h12 e).2.grown hg3 ((h.h12 e).2.apart hown (by decide))⟩, h.h13, h.h14, h.h15, h.h16, fun e => absurd (h.s19 e) (by rw [hL]; decide), h.h20, h.h21, h.h22, h.h10, h.h11, h.h17, fun _ => rfl, fun _ e => absurd ((h.s12 (h.s14 p14)).symm.trans e) (by decide), h.d8, fun _ e => absurd ((h.s12 (h.s14 p14)).symm.trans e) (by decide), fun _ e => absurd ((h.s14 p14).symm.trans e) (by decide), fun _ e => absurd ((upd_same L 18).symm.trans e) (by decide), fun _ e => absurd ((upd_same L 18).symm.trans e) (by decide), fun _ _ => hseg, h.s11, h.s12, h.s14, fun _ => ⟨p14, p17⟩, fun e => absurd (h.s19 e) (by rw [hL]; decide)⟩⟩
    | 19, _, hL, ho, hp =>
      simp only [List.getElem?_toArray, List.getElem?_cons_zero, List.getElem?_cons_succ, Option.some.injEq] at ho
      subst ho
      have p18 : L 18 = true := hp ⟨18, .chain⟩ (by simp) rfl
      obtain rfl := h.h18 p18
      have p6 : L 6 = true := hp ⟨6, .guard⟩ (by simp) rfl
      obtain rfl := h.h6 p6
      rw [if_pos (by rfl)]
      go_simp
      go_at_call 29
      (with_reducible refine (HC2.out X _ (h.p18 p18 hL)).mono ?_)
      rintro e X2 ⟨q, rfl, hq, gb⟩
      obtain ⟨qo, qn, qc, rfl⟩ := hq.any
      have hsz := h.low.size
      have hlow2 := below_later h.low gb
      exact ⟨_, _, _, _, _, _, _, _, _, _, _, _, _, _, _, _, _, _, _, _, _, _, _, ao, ac, bo, bc, xo, xn, xc, qo, qn, qc, so, sn, sc, yo, yn, yc, bq, br, rfl, ⟨hlow2, h.h0, h.h1, h.h2, h.h3, h.h4, h.h5, h.h6, h.h7, h.h8, h.h9, fun e => ⟨(h.h12 e).1, (h.h12 e).2.later gb⟩, h.h13, h.h14, h.h15, h.h16, fun _ => ⟨rfl, hq.mono hsz⟩, h.h20, h.h21, h.h22, h.h10, h.h11, h.h17, h.h18, fun e e2 => (h.p8 e e2).later gb, h.d8, fun e e2 => (h.p10 e e2).later gb, fun e e2 => (h.p11 e e2).later gb, fun e e2 => (h.p14 e e2).later gb, fun e e2 => (h.p17 e e2).later gb, fun _ e => absurd ((upd_same L 19).symm.trans e) (by decide), h.s11, h.s12, h.s14, h.s18, fun _ => p18⟩⟩
    | 20, _, hL, ho, hp =>
      simp only [List.getElem?_toArray, List.getElem?_cons_zero, List.getElem?_cons_succ, Option.some.injEq] at ho
      subst ho
      have p12 : L 12 = true := hp ⟨12, .data⟩ (by simp) rfl
      obtain ⟨rfl, hd12⟩ := h.h12 p12
      have p19 : L 19 = true := hp ⟨19, .chain⟩ (by simp) rfl
      obtain ⟨rfl, hd19⟩ := h.h19 p19
      have p6 : L 6 = true := hp ⟨6, .guard⟩ (by simp) rfl
      obtain rfl := h.h6 p6
      rw [if_pos (by rfl)]
      go_simp
      go_at_call 28
      (with_reducible refine (equalC _ _ C _ hd12.seg hd19.seg).mono ?_)
      rintro e X2 ⟨rfl, g⟩
      have gb := g.below
      have hsz := h.low.size
      have hlow2 := below_later h.low gb
      exact ⟨_, _, _, _, _, _, _, _, _, _, _, _, _, _, _, _, _, _, _, _, _, _, _, ao, ac, bo, bc, xo, xn, xc, zo, zn, zc, so, sn, sc, yo, yn, yc, bq, br, rfl, ⟨hlow2, h.h0, h.h1, h.h2, h.h3, h.h4, h.h5, h.h6, h.h7, h.h8, h.h9, fun e => ⟨(h.h12 e).1, (h.h12 e).2.later gb⟩, h.h13, h.h14, h.h15, h.h16, fun e => ⟨(h.h19 e).1, (h.h19 e).2.later gb⟩, fun _ => rfl, h.h21, h.h22, h.h10, h.h11, h.h17, h.h18, fun e e2 => (h.p8 e e2).later gb, h.d8, fun e e2 => (h.p10 e e2).later gb, fun e e2 => (h.p11 e e2).later gb, fun e e2 => (h.p14 e e2).later gb, fun e e2 => (h.p17 e e2).later gb, fun e e2 => (h.p18 e e2).later gb, h.s11, h.s12, h.s14, h.s18, h.s19⟩⟩
    | 21, _, hL, ho, hp =>
      simp only [List.getElem?_toArray, List.getElem?_cons_zero, List.getElem?_cons_succ, Option.some.injEq] at ho
      subst ho
      rw [if_pos (by simp [Region.wanted])]
      have p6 : L 6 = true := hp ⟨6, .data⟩ (by simp) rfl
      obtain rfl := h.h6 p6
      have p20 : L 20 = true := hp ⟨20, .data⟩ (by simp) rfl
      obtain rfl := h.h20 p20
      go_simp
      exact ⟨_, _, _, _, _, _, _, _, _, _, _, _, _, _, _, _, _, _, _, _, _, _, _, ao, ac, bo, bc, xo, xn, xc, zo, zn, zc, so, sn, sc, yo, yn, yc, bq, br, rfl, ⟨h.low, h.h0, h.h1, h.h2, h.h3, h.h4, h.h5, h.h6, h.h7, h.h8, h.h9, h.h12, h.h13, h.h14, h.h15, h.h16, h.h19, h.h20, fun _ => rfl, h.h22, h.h10, h.h11, h.h17, h.h18, h.p8, h.d8, h.p10, h.p11, h.p14, h.p17, h.p18, h.s11, h.s12, h.s14, h.s18, h.s19⟩⟩
    | 22, _, hL, ho, hp =>
      simp only [List.getElem?_toArray, List.getElem?_cons_zero, List.getElem?_cons_succ, Option.some.injEq] at ho
      subst ho
      rw [if_pos (by simp [Region.wanted])]
      have p21 : L 21 = true := hp ⟨21, .phase⟩ (by simp) rfl
      obtain rfl := h.h21 p21
      go_simp
      exact ⟨_, _, _, _, _, _, _, _, _, _, _, _, _, _, _, _, _, _, _, _, _, _, _, ao, ac, bo, bc, xo, xn, xc, zo, zn, zc, so, sn, sc, yo, yn, yc, bq, br, rfl, ⟨h.low, h.h0, h.h1, h.h2, h.h3, h.h4, h.h5, h.h6, h.h7, h.h8, h.h9, h.h12, h.h13, h.h14, h.h15, h.h16, h.h19, h.h20, h.h21, fun _ => rfl, h.h10, h.h11, h.h17, h.h18, h.p8, h.d8, h.p10, h.p11, h.p14, h.p17, h.p18, h.s11, h.s12, h.s14, h.s18, h.s19⟩⟩
end Go.Proofs.Ytlhigfphfbmbjaa


/- MergeContent's walk. -/
namespace Go.Proofs.Ytlhigfphfbmbjaa
open Go.RowKit Go.Proofs.Kit Go.Shelf
theorem sm_two {t u : Tr} (h : Sh t u) : SmT 1000 [t, u] := by
  intro r hr
  simp only [List.mem_cons, List.not_mem_nil, or_false] at hr
  rcases hr with rfl | rfl
  · exact h.1
  · exact h.2
theorem old_none {l : List Ti} {L : List Tr} (h : l.length = L.length) : ((l.length : Int) == 0) = decide (L = []) := by
  cases L with
  | nil => simp at h; simp [h]
  | cons a b => simp at h; simp [h]; omega
theorem wl_one {L : List Tr} {t : Tr} (h : Wl L) (ht : Wt t) : Wl (L ++ [t]) := by
  intro r hr
  rcases List.mem_append.1 hr with h1 | h1
  · exact h r h1
  · simp only [List.mem_cons, List.not_mem_nil, or_false] at h1; rw [h1]; exact ht
theorem wl_two {L : List Tr} {t u : Tr} (h : Wl L) (ht : Wt t) (hu : Wt u) : Wl (L ++ [t, u]) := by
  have := wl_one (wl_one h ht) hu
  rwa [List.append_assoc] at this
theorem sm_one {L : List Tr} {t u : Tr} (h : SmT 500000 (L ++ [t, u])) (h2 : Sh t u) (o : Bool) : SmT 500000 (L ++ [joinT o [t, u]]) := by
  intro r hr
  rcases List.mem_append.1 hr with h1 | h1
  · exact h r (List.mem_append.2 (.inl h1))
  · simp only [List.mem_cons, List.not_mem_nil, or_false] at h1
    have := joinT_len (sm_two h2) o
    simp at this
    rw [h1]; omega
set_option maxRecDepth 100000 in
set_option maxHeartbeats 16000000 in
theorem content_true (x y : Ti) (T U : Tr) (oo : Option Addr) (on oc : Nat) (O : List Tr) (w : World) (hx : ArgQ w x T) (hy : ArgQ w y U) (hWT : Wt T) (hWU : Wt U) (hWO : Wl O) (hol : O.length = on) (hoc : on ≤ oc) (hom : oc ≤ 9223372036854775807) (ho : ArgT w oo oc O) :
    Calls Try.prog 5 #[.agg #[x.av, x.bv], .agg #[y.av, y.bv], .slice oo on oc] w fun e w' => e = .returned (.bool true) ∧ Below w.heap.size w w' := by
  have HX := Lib.hid (fun W (hb : Below w.heap.size w W) => ownT12_any x T W (hx.later hb).1 (hx.later hb).2)
  have HY := Lib.hid (fun W (hb : Below w.heap.size w W) => ownT12_any y U W (hy.later hb).1 (hy.later hb).2)
  obtain ⟨t, ht⟩ : ∃ t, t = few24 T := ⟨_, rfl⟩
  obtain ⟨u, hu⟩ : ∃ u, u = few24 U := ⟨_, rfl⟩
  have HSH := Lib.hid (show Sh t u by rw [ht, hu]; exact few24_sh T U)
  have HO := Lib.hid (And.intro hol ho)
  have HT := Lib.hid ht
  have HU := Lib.hid hu
  have HWW := Lib.hid (show Wt t ∧ Wt u ∧ Wl O from ⟨by rw [ht]; exact few24_w hWT, by rw [hu]; exact few24_w hWU, hWO⟩)
  obtain ⟨i0, hi, hz0, hz1, hz2⟩ := infoT
  clear hx hy ht hu hol ho hWT hWU hWO
  go_enter Try.func5, Try.ntmps5
  go_wp2_with fail
  refine (wakes12_true _).mono ?_
  rintro e w1 ⟨rfl, b1⟩
  have gA := ((Gr.alloc w (.cells #[x.av, x.bv] 24)).trans (Gr.alloc _ (.cells #[y.av, y.bv] 24))).below
  have kx := ((Blk.new w #[x.av, x.bv] 24).alloc (.cells #[y.av, y.bv] 24)).later b1
  have ky := (Blk.new (w.alloc (.cells #[x.av, x.bv] 24)) #[y.av, y.bv] 24).later b1
  simp only [World.size_alloc] at ky
  have L1 := Lib.hid (below_later gA b1)
  clear gA b1
  go_wp2_with fail
  refine MC_region w1 w.heap.size (w.heap.size + 1) x y T U oo on oc w1 _ rfl (Below.refl _ _) kx ky kx.lt ky.lt (Lib.hid (fun W hb => HX.out W (below_later L1.out hb))) (Lib.hid (fun W hb => HY.out W (below_later L1.out hb))) ?_
  rintro L t7 t8 t29 t30 t31 t32 fo fn fc fp fq fr ko kn kc kp kq kr b7 b8 X hall h
  have e7 := (h.h4 (hall 4 (by decide))).1
  have e8 := (h.h5 (hall 5 (by decide))).1
  have K7 := Lib.hid (h.k7 (hall 6 (by decide)))
  have K8 := Lib.hid (h.k8 (hall 7 (by decide)))
  have HA := Lib.hid (show TR X _ t by rw [HT.out]; exact (h.h1 (hall 1 (by decide))).2.tr)
  have HB := Lib.hid (show TR X _ u by rw [HU.out]; exact (h.h3 (hall 3 (by decide))).2.tr)
  have LX := Lib.hid (below_later L1.out h.low)
  subst e7 e8
  obtain ⟨n4, hn4⟩ : ∃ n4, n4 = min on 4 := ⟨_, rfl⟩
  have g2 : min (on : Int) 4 = (n4 : Int) := by omega
  have g3 : n4 ≤ on := by omega
  have g4 : n4 ≤ 4 := by omega
  have g5 : n4 ≤ oc := by omega
  have HN4 := Lib.hid hn4
  clear h hall kx ky L1 HX HY HT HU hn4
  simp only [Ti.av, Ti.bv]
  go_wp2_with fail
  go_loopw [9, 28] (fun s9 s28 wr => ∃ k : Nat, k ≤ n4 ∧ s28 = .int .i64 (k : Int) ∧ Hid (OwnT 53 24 X.heap.size wr s9 ((O.take k).map few24) ∧ Below X.heap.size X wr)) (fun _ s28 _ => n4 - (intOf s28).toNat)
  case atStart => exact ⟨0, Nat.zero_le _, rfl, Lib.hid ⟨OwnT.nil _ _ _ _, Below.refl _ _⟩⟩
  case round =>
    obtain ⟨k, hk, rfl, HR⟩ := hrel
    by_cases hlt : k < n4
    · have hkl : k < O.length := by have := HO.out.1; omega
      obtain ⟨a, x2, rfl, d0, d1, q1, q2⟩ := (HO.out.2.later (below_later LX.out HR.out.2)).at hkl
      rw [add_pos a _ 1 (by decide)] at d1
      have HQ1 := Lib.hid q1
      have HQ2 := Lib.hid q2
      have HN := Lib.hid (show (O.take (k + 1)).map few24 = (O.take k).map few24 ++ [few24 O[k]] by rw [List.take_succ_eq_append_getElem hkl, List.map_append]; rfl)
      obtain ⟨ao, an, ac, bo, bn, bc⟩ := x2
      simp only at d0 d1
      obtain ⟨l, hot⟩ := HR.out.1.open
      have hlen := hot.len
      have hll : l.length ≤ 4 := by rw [hlen]; simp; omega
      have HLL := Lib.hid hll
      obtain ⟨ro, rn, rfl⟩ := hot.own.shape
      have HOT := Lib.hid hot
      clear q1 q2 hot hlen hll
      go_wp2_with fail
      have gA := (Gr.alloc wr (.cells #[.slice ao an ac, .slice bo bn bc] 24)).below
      refine (ownT12_any ⟨ao, an, ac, bo, bn, bc⟩ O[k] _ ⟨HQ1.out.1, HQ1.out.2.1, HQ1.out.2.2.1, HQ1.out.2.2.2.later gA⟩ ⟨HQ2.out.1, HQ2.out.2.1, HQ2.out.2.2.1, HQ2.out.2.2.2.later gA⟩).mono ?_
      rintro e w5 ⟨⟨yo, yn, yc, zo, zn, zc⟩, rfl, hq, b5⟩
      have HQ := Lib.hid hq
      have E5 := Lib.hid (below_later gA b5)
      have HOT := Lib.hid (HOT.out.later E5.out)
      have hsz : X.heap.size ≤ wr.heap.size := HR.out.2.size
      have HS5 := Lib.hid (show X.heap.size ≤ w5.heap.size from Nat.le_trans hsz E5.out.size)
      have HQm := Lib.hid (HQ.out.mono (B' := X.heap.size) (Nat.le_trans hsz gA.size))
      have L5 := Lib.hid (HR.out.2.trans (E5.out.mono hsz))
      clear gA b5 hq d0 d1 HQ1 HQ2 hsz
      simp only [Ti.av, Ti.bv]
      go_wp2_with (at_builtin; refine wpList_append_segE (E := tiE) rfl _ _ 45 rfl X.heap.size 24 i0 (.agg #[.slice none 0 0, .slice none 0 0]) 48 Try.underlying45 hi hz0 hz1 hz2 rfl _ _ rfl (HOT.out.own.later (Gr.alloc _ _).below) _ [⟨yo, yn, yc, zo, zn, zc⟩] rfl (SegE.of_blk (E := tiE) (l := [⟨yo, yn, yc, zo, zn, zc⟩]) (cap := 1) (Blk.new _ _ _) (by simp) (by decide) rfl) ?q1 ?q2 ?q3 ?_)
      case q1 => show (_ + 1) * 2 ≤ _; have := HLL.out; omega
      case q2 => show (_ + 1) * 48 ≤ _; have := HLL.out; omega
      case q3 => have := HS5.out; simp; omega
      intro v' w6 hO6 hb6 hg6
      have gA := (Gr.alloc w5 (.cells #[.slice yo yn yc, .slice zo zn zc] 24)).below
      have ot2 := HOT.out.later gA
      have hT := OwnT.snoc ot2.own ot2.len ot2.each (x := ⟨yo, yn, yc, zo, zn, zc⟩) (t := few24 O[k]) (HQm.out.later gA) hO6 hg6 (by decide)
      have HT := Lib.hid hT
      have E6 := Lib.hid ((L5.out.alloc HS5.out _).trans hb6)
      clear hO6 hb6 hg6 gA ot2 hT
      go_wp2_with fail
      go_roundw
      case rel => exact ⟨k + 1, by omega, by go_num, Lib.hid ⟨by rw [HN.out]; exact HT.out, E6.out⟩⟩
      case measure => simp [intOf]; omega
    · obtain rfl : k = n4 := by omega
      obtain ⟨LO, hLO⟩ : ∃ LO, LO = (O.take k).map few24 := ⟨_, rfl⟩
      have HLO := Lib.hid hLO
      rw [← hLO] at HR
      obtain ⟨l, hsg, hll, htr⟩ := HR.out.1.seg
      have hl4 : l.length ≤ 4 := by rw [hll, hLO]; simp; omega
      have HL4 := Lib.hid hl4
      have HTR := Lib.hid (And.intro hll htr)
      have HSG := Lib.hid hsg
      have HBX := Lib.hid HR.out.2
      have K7 := Lib.hid (K7.out.later HBX.out)
      have K8 := Lib.hid (K8.out.later HBX.out)
      have HA := Lib.hid (HA.out.later HBX.out)
      have HB := Lib.hid (HB.out.later HBX.out)
      have HCL := Lib.hid (fun W (hb : Below wr.heap.size wr W) => cloneT_any _ l W (HSG.out.later hb) (by omega))
      obtain ⟨q0, q1, hshape⟩ := hsg.shape
      obtain ⟨rfl, q2, q3⟩ := hshape
      clear hsg hll htr hLO hl4
      go_wp2_with fail
      have a0 := K7.out.cell 0
      have a1 := K7.out.cell 1
      have la := K7.out.lt
      have c0 := K8.out.cell 0
      have c1 := K8.out.cell 1
      have lc := K8.out.lt
      simp only [List.getElem?_toArray, List.getElem?_cons_zero, List.getElem?_cons_succ] at a0 a1 c0 c1
      have HSM : Hid (SmT 500000 (LO ++ [t, u])) := Lib.hid (by
        intro r hr
        rcases List.mem_append.1 hr with h1 | h1
        · rw [HLO.out] at h1
          obtain ⟨r0, _, rfl⟩ := List.mem_map.1 h1
          simp [few24]
          omega
        · have h2 := HSH.out.1
          have h3 := HSH.out.2
          simp only [List.mem_cons, List.not_mem_nil, or_false] at h1
          rcases h1 with rfl | rfl <;> omega)
      have HTWO := Lib.hid (tr_two HA.out HB.out)
      have HCK := Lib.hid (fun v W (hb : Below wr.heap.size wr W) (hs : SegE tiE W v (l ++ [⟨fo, fn, fc, fp, fq, fr⟩, ⟨ko, kn, kc, kp, kq, kr⟩])) => check11_any v (LO ++ [t, u]) W (segT_app HTR.out.1 HTR.out.2 rfl HTWO.out hb hs) HSM.out)
      go_cut [45] from 38 to 44 (fun s45 wx => s45 = .bool (ckT (LO ++ [t, u]) != 0) ∧ Hid (Below wr.heap.size wr wx))
      case first =>
        go_region_law (first
          | (go_simp; go_at_call 27; (with_reducible refine (HCL.out _ (by first | with_reducible exact (Gr.drew _).below | with_reducible exact ((Gr.alloc _ _).trans (Gr.drew _)).below)).mono ?_); rintro e wS ⟨vC, rfl, oC, bS⟩; obtain ⟨oc1, cc1, rfl⟩ := oC.shape; (first | (have kz : Blk wS wr.heap.size #[.slice fo fn fc, .slice fp fq fr, .slice ko kn kc, .slice kp kq kr] 24 := (by with_reducible exact Blk.nwd bS); have KZ := Lib.hid kz; clear kz) | skip); have hS : Below wr.heap.size wr wS := (by first | with_reducible exact below_later (Gr.drew _).below bS | with_reducible exact below_later ((Gr.alloc _ _).trans (Gr.drew _)).below bS); have OC := Lib.hid (oC.mono (B' := wr.heap.size) (by simp)); have k7 := K7.out.later hS; have k8 := K8.out.later hS; have la := k7.lt; have lc := k8.lt; have a0 := k7.cell 0; have a1 := k7.cell 1; have c0 := k8.cell 0; have c1 := k8.cell 1; simp only [List.getElem?_toArray, List.getElem?_cons_zero, List.getElem?_cons_succ] at a0 a1 c0 c1; have HS := Lib.hid hS; clear hS k7 k8 oC bS)
          | (refine step_append_segE (E := tiE) rfl _ _ 45 (by rfl) wr.heap.size 24 i0 (.agg #[.slice none 0 0, .slice none 0 0]) 48 Try.underlying45 hi hz0 hz1 hz2 rfl _ l (by rfl) (by first | exact (OC.out.later (Gr.alloc _ _).below) | exact OC.out) _ [⟨fo, fn, fc, fp, fq, fr⟩, ⟨ko, kn, kc, kp, kq, kr⟩] (by rfl) (by first | exact SegE.of_blk (E := tiE) (l := [⟨fo, fn, fc, fp, fq, fr⟩, ⟨ko, kn, kc, kp, kq, kr⟩]) (cap := 2) KZ.out (by simp) (by decide) rfl | exact SegE.of_blk (E := tiE) (l := [⟨fo, fn, fc, fp, fq, fr⟩, ⟨ko, kn, kc, kp, kq, kr⟩]) (cap := 2) (Blk.new _ _ _) (by simp) (by decide) rfl) (by simp) (by show (_ + 2) * 2 ≤ _; have := HL4.out; omega) (by show (_ + 2) * 48 ≤ _; have := HL4.out; omega) (by first | with_reducible exact HS.out.size | (have := HS.out.size; simp; omega)) ?_; intro v' w3 hO3 hb3 hg3)
          | (have hW3 : Below wr.heap.size wr w3 := (by first | with_reducible exact HS.out.trans hb3 | exact (HS.out.alloc HS.out.size _).trans hb3); go_simp; go_at_call 26; (refine (HCK.out _ _ hW3 hO3.seg).mono ?_); rintro e wK ⟨rfl, bK⟩; have BK := Lib.hid (below_later hW3 bK); clear bK hW3))
        all_goals
          go_wp2_with fail
          go_meet
          exact ⟨rfl, BK⟩
      case rest =>
        obtain ⟨wd, hwd⟩ : ∃ wd, wd = wc := ⟨_, rfl⟩
        subst hwd
        obtain ⟨rfl, HD⟩ := hcut
        by_cases hgood : goodT (LO ++ [t, u])
        · have HGD := Lib.hid hgood
          have hck : (ckT (LO ++ [t, u]) != 0) = false := by rw [ckT_yes hgood]; rfl
          have K7 := Lib.hid (K7.out.later HD.out)
          have K8 := Lib.hid (K8.out.later HD.out)
          have HA := Lib.hid (HA.out.later HD.out)
          have HB := Lib.hid (HB.out.later HD.out)
          have a0 := K7.out.cell 0
          have a1 := K7.out.cell 1
          have la := K7.out.lt
          have c0 := K8.out.cell 0
          have c1 := K8.out.cell 1
          have lc := K8.out.lt
          simp only [List.getElem?_toArray, List.getElem?_cons_zero, List.getElem?_cons_succ] at a0 a1 c0 c1
          rw [hck]
          have HG := Lib.hid (show oneT t ∧ oneT u from ⟨hgood.1 t (by simp), hgood.1 u (by simp)⟩)
          have HWB := Lib.hid (below_later (below_later LX.out HBX.out) HD.out)
          clear hgood hck HCL HCK
          go_wp2_with fail
          obtain ⟨o, ho⟩ : ∃ o, o = ((l.length : Int) == 0) := ⟨_, rfl⟩
          rw [← ho]
          have HOE := Lib.hid ho
          clear ho
          have hBG := beginM_any _ _ t u o wd HA.out HB.out HSH.out
          simp only [Ti.av, Ti.bv] at hBG
          refine hBG.mono ?_
          rintro e w3 (⟨⟨_, x6, y6, z6, rfl, hm6⟩, b6⟩ | ⟨⟨hno, rfl⟩, b6⟩)
          · obtain ⟨xo, xn, xc, xp, xq, xr⟩ := x6
            obtain ⟨yo, yn, yc, yp, yq, yr⟩ := y6
            obtain ⟨zo, zn, zc, zp, zq, zr⟩ := z6
            have HM6 := Lib.hid hm6
            have B36 := Lib.hid b6
            have HDW := Lib.hid (HD.out.trans (b6.mono HD.out.size))
            have HWB := Lib.hid (below_later HWB.out b6)
            have K7 := Lib.hid (K7.out.later b6)
            have K8 := Lib.hid (K8.out.later b6)
            have HA := Lib.hid (HA.out.later b6)
            have HB := Lib.hid (HB.out.later b6)
            simp only [mgV, Ti.av, Ti.bv]
            clear hBG hm6 b6 a0 a1 la c0 c1 lc HD
            go_wp2_with fail
            have gA := (Gr.alloc w3 (.cells #[.slice xo xn xc, .slice xp xq xr, .slice yo yn yc, .slice yp yq yr, .bool o, .int .i64 0, .slice zo zn zc, .slice zp zq zr] 26)).below
            have K9 := Lib.hid (Blk.new w3 #[.slice xo xn xc, .slice xp xq xr, .slice yo yn yc, .slice yp yq yr, .bool o, .int .i64 0, .slice zo zn zc, .slice zp zq zr] 26)
            obtain ⟨wa, hwa⟩ : ∃ wa, wa = w3.alloc (.cells #[.slice xo xn xc, .slice xp xq xr, .slice yo yn yc, .slice yp yq yr, .bool o, .int .i64 0, .slice zo zn zc, .slice zp zq zr] 26) := ⟨_, rfl⟩
            obtain ⟨b12, hb12⟩ : ∃ b12, b12 = w3.heap.size := ⟨_, rfl⟩
            have HB12 := Lib.hid hb12
            rw [← hwa] at gA K9 ⊢
            rw [← hb12] at K9 ⊢
            have HWA := Lib.hid gA
            obtain ⟨q, hq⟩ : ∃ q, q = (allP t u).length := ⟨_, rfl⟩
            have HQ := Lib.hid hq
            have HLE := Lib.hid (fun W (hb : Below wa.heap.size wa W) => by
              have hL := leftS_any ⟨xo, xn, xc, xp, xq, xr⟩ ⟨yo, yn, yc, yp, yq, yr⟩ ⟨zo, zn, zc, zp, zq, zr⟩ t u ([], []) o 0 W ((HM6.out.x.tr.later HWA.out).later hb) ((HM6.out.y.tr.later HWA.out).later hb) ((HM6.out.z.tr.later HWA.out).later hb) HSH.out
              rw [left_zero o HG.out, ← HQ.out] at hL
              simp only [mgV, Ti.av, Ti.bv] at hL
              exact hL)
            have HST := Lib.hid (fun W (hb : Below wa.heap.size wa W) => by
              have hS := stepM_ok ⟨xo, xn, xc, xp, xq, xr⟩ ⟨yo, yn, yc, yp, yq, yr⟩ ⟨zo, zn, zc, zp, zq, zr⟩ t u ([], []) o 0 W ((HM6.out.x.tr.later HWA.out).later hb) ((HM6.out.y.tr.later HWA.out).later hb) ((HM6.out.z.tr.later HWA.out).later hb) HSH.out (q : Int) (ok_zero o HG.out) (by omega) q (by rw [left_zero o HG.out, ← HQ.out]; omega)
              simp only [mgV, Ti.av, Ti.bv, Int.zero_add] at hS
              exact hS)
            obtain ⟨⟨m0, m1, m2, m3, m4, m5, m6, m7⟩, lm⟩ := K9.out.all8
            obtain ⟨f0, f1, f2, f3, f4, f5, f6, f7⟩ := K9.out.frz8
            clear gA hwa hb12 hq
            go_cut [13] from 57 to 64 (fun s13 wx => s13 = .int .i64 0 ∧ ∃ x' y' z' : Ti, Hid (Blk wx b12 (mgV x' y' z' o (q : Int)) 26 ∧ OwnM 53 w3.heap.size wx x' y' z' t u (outT o t u q) ∧ Below w3.heap.size w3 wx))
            case first =>
              go_region_law (first
                | (go_simp; go_at_call 20; (with_reducible refine (HLE.out _ (Gr.drew _).below).mono ?_); rintro e wS ⟨rfl, bS⟩; have hS := below_later (Gr.drew _).below bS; have k9 := K9.out.later hS; obtain ⟨⟨m0, m1, m2, m3, m4, m5, m6, m7⟩, lm⟩ := k9.all8; have HS := Lib.hid hS; clear hS k9 bS)
                | (go_simp; go_at_call 21; (with_reducible refine (HST.out _ HS.out).mono ?_); rintro e wT ⟨⟨ao, an, ac, ap, aq, ar⟩, ⟨bo, bn, bc, bp, bq, br⟩, ⟨co, cn, cc, cp, cq, cr⟩, rfl, hm8, bT⟩; have hT := below_later HS.out bT; have k9 := K9.out.later hT; obtain ⟨⟨m0, m1, m2, m3, m4, m5, m6, m7⟩, lm⟩ := k9.all8; obtain ⟨f0, f1, f2, f3, f4, f5, f6, f7⟩ := k9.frz8; have HT := Lib.hid hT; have HM8 := Lib.hid hm8; clear hT k9 bT hm8))
              all_goals
                go_wp2_with fail
                go_meet
                have hk := K9.out.later HT.out
                have hm : OwnM 53 w3.heap.size wT ⟨ao, an, ac, ap, aq, ar⟩ ⟨bo, bn, bc, bp, bq, br⟩ ⟨co, cn, cc, cp, cq, cr⟩ t u (outT o t u q) := by
                  have h := HM8.out.mono (B' := w3.heap.size) (Nat.le_trans HWA.out.size HS.out.size)
                  rwa [show (0 : Int).toNat + q = q by simp] at h
                exact ⟨rfl, ⟨ao, an, ac, ap, aq, ar⟩, ⟨bo, bn, bc, bp, bq, br⟩, ⟨co, cn, cc, cp, cq, cr⟩, Lib.hid ⟨set8_blk _ _ _ _ _ _ _ _ hk, hm.set8 hk (by decide) _ _ _ _ _ _ _ _, (below_later HWA.out HT.out).trans (set8_below _ _ _ _ _ _ _ _ (by rw [HB12.out]; exact Nat.le_refl _))⟩⟩
            case rest =>
              obtain ⟨w5, hw5⟩ : ∃ w5, w5 = wc := ⟨_, rfl⟩
              subst hw5
              obtain ⟨rfl, ⟨ao, an, ac, ap, aq, ar⟩, ⟨bo, bn, bc, bp, bq, br⟩, ⟨co, cn, cc, cp, cq, cr⟩, HC5⟩ := hcut
              have HM8 := Lib.hid HC5.out.2.1
              have B5 := Lib.hid HC5.out.2.2
              have K12 := Lib.hid HC5.out.1
              obtain ⟨⟨m0, m1, m2, m3, m4, m5, m6, m7⟩, lm⟩ := K12.out.all8
              have hqq : q ≤ (allP t u).length := by rw [HQ.out]; exact Nat.le_refl _
              have hl8 : leftM t u (outT o t u q) o (q : Int) = 0 := by rw [left_at o HG.out hqq, ← HQ.out]; omega
              have hlen := outT_len o t u q
              have h4 := allP_len (m := 1000) ⟨HSH.out.1.1, HSH.out.1.2, HSH.out.2.1, HSH.out.2.2⟩
              have he : endE t u (outT o t u q) o (q : Int) = 0 := by rw [endE, if_pos (ok_at o HG.out hqq), hl8]; rfl
              have hE := endM_any ⟨ao, an, ac, ap, aq, ar⟩ ⟨bo, bn, bc, bp, bq, br⟩ ⟨co, cn, cc, cp, cq, cr⟩ t u (outT o t u q) o (q : Int) w5 HM8.out.x.tr HM8.out.y.tr HM8.out.z.tr HSH.out (by omega)
              rw [he, if_pos rfl, outT_all HG.out.1 HG.out.2 o (by rw [← HQ.out]; exact Nat.le_refl _)] at hE
              have HE := Lib.hid hE
              simp only [mgV, Ti.av, Ti.bv] at HE m0 m1 m2 m3 m4 m5 m6 m7
              clear HLE HST hE he hl8 hlen h4 hqq HC5
              go_wp2_with fail
              refine HE.out.mono ?_
              rintro e w6 ⟨⟨eo, en, ec, ep, eq, er⟩, rfl, hz, b6⟩
              have gC := (Gr.alloc w6 (.cells #[.slice eo en ec, .slice ep eq er] 24)).below
              have B36 := Lib.hid (below_later (below_later B5.out b6) gC)
              have HDW := Lib.hid (HDW.out.trans (B36.out.mono HDW.out.size))
              have HWB := Lib.hid (below_later HWB.out B36.out)
              have K7 := Lib.hid (K7.out.later B36.out)
              have K8 := Lib.hid (K8.out.later B36.out)
              have HA := Lib.hid (HA.out.later B36.out)
              have HB := Lib.hid (HB.out.later B36.out)
              have HZ := Lib.hid (show TR (w6.alloc (.cells #[.slice eo en ec, .slice ep eq er] 24)) ⟨eo, en, ec, ep, eq, er⟩ (joinT o [t, u]) from hz.tr.later gC)
              have K14 := Lib.hid (Blk.new w6 #[.slice eo en ec, .slice ep eq er] 24)
              clear gC hz b6 HE m0 m1 m2 m3 m4 m5 m6 m7 lm
              go_upto_region 17 with (fail)
              have hoe : o = decide (LO = []) := by rw [HOE.out]; exact old_none HTR.out.1
              obtain ⟨hg2, hc2⟩ := join2_cont HGD.out (sm_two HSH.out)
              rw [← hoe] at hg2 hc2
              have hWL : Wl LO := by
                rw [HLO.out]
                intro r hr
                obtain ⟨r0, h0, rfl⟩ := List.mem_map.1 hr
                exact few24_w (HWW.out.2.2 r0 (List.mem_of_mem_take h0))
              have HCa := Lib.hid (fun W v (hs : SegT W v (LO ++ [joinT o [t, u]])) => by
                have h := content11_any v _ W hs (wl_one hWL (joinT_w (wl_two (L := []) (nofun) HWW.out.1 HWW.out.2.1) o)) (sm_one HSM.out HSH.out o)
                rw [hc2] at h
                exact h)
              have HCb := Lib.hid (fun W v (hs : SegT W v (LO ++ [t, u])) => content11_any v _ W hs (wl_two hWL HWW.out.1 HWW.out.2.1) HSM.out)
              have HCc := Lib.hid (fun W (hb : Below (w6.alloc (.cells #[.slice eo en ec, .slice ep eq er] 24)).heap.size (w6.alloc (.cells #[.slice eo en ec, .slice ep eq er] 24)) W) => cloneT_any _ l W (HSG.out.later (below_later HDW.out hb)) (by have := HL4.out; omega))
              refine MZ_region (w6.alloc (.cells #[.slice eo en ec, .slice ep eq er] 24)) _ _ _ _ _ _ _ _ _ _ _ _ _ _ _ _ _ _ _ _ _ _ _ _ _ _ _ _ _ _ _ _ _ _ _ _ _ _ _ _ _ _ _ _ _ _ _ _ _ _ _ _ _ _ _ _ _ _ _ _ _ _ _ _ _ _ _ _ _ _ _ _ _ _ _ _ _ _ _ _ _ _ _ _ _ _ _ _ _ _ _ _ _ _ _ _ _ _ l LO (joinT o [t, u]) t u (cont (LO ++ [t, u])) _ _ rfl (Below.refl _ _) K7.out.lt K8.out.lt K14.out.lt K7 K8 K14 (by have := HL4.out; omega) HTR.out.1 (fun i a b => (HTR.out.2 i a b).later HDW.out) HZ.out (tr_two HA.out HB.out) HCc HCa HCb ?_
              clear HCa HCb HCc hg2 hc2 hWL hoe
              rintro L t6 t70 t71 t72 t73 t74 t75 t76 t77 t78 t79 t80 t81 t82 t83 t84 t85 t86 t87 t88 t89 t90 t91 ao ac bo bc xo xn xc zo zn zc so sn sc yo yn yc bq br X hall h
              have e6 := h.h22 (hall 22 (by decide))
              have hlw := h.low
              clear h hall
              subst e6
              go_wp2_with fail
              go_ret
              exact ⟨rfl, below_later HWB.out hlw⟩
          · exact absurd HG.out hno
        · have hck : (ckT (LO ++ [t, u]) != 0) = true := by rw [ckT_no hgood]; rfl
          rw [hck]
          go_wp2_with fail
          go_ret
          exact ⟨rfl, below_later (below_later LX.out HBX.out) HD.out⟩
end Go.Proofs.Ytlhigfphfbmbjaa

