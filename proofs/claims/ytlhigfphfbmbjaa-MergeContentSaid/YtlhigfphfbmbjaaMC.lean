import Derived.Test.YtlhigfphfbmbjaaMB
/- merge.goneOn: the merge behind so many steps more; its region by one invariant. Written by tools/gen_m10.py. -/
namespace Go.Proofs.Kit
open Go.RowKit
/-- Eight cells stored. -/
abbrev set8 (w : World) (b : Nat) (u0 u1 u2 u3 u4 u5 u6 u7 : Value) : World := (((((((w.setCell ⟨b, 0, none⟩ u0).setCell ⟨b, 1, none⟩ u1).setCell ⟨b, 2, none⟩ u2).setCell ⟨b, 3, none⟩ u3).setCell ⟨b, 4, none⟩ u4).setCell ⟨b, 5, none⟩ u5).setCell ⟨b, 6, none⟩ u6).setCell ⟨b, 7, none⟩ u7
section
variable {w : World} {b : Nat} (u0 u1 u2 u3 u4 u5 u6 u7 : Value)
theorem set8_heap {k : Nat} (h : k ≠ b) : (set8 w b u0 u1 u2 u3 u4 u5 u6 u7).heap[k]? = w.heap[k]? := by
  unfold set8
  repeat rw [Below.heap_setCell _ _ _ _ h]
theorem set8_below {B : Nat} (h : B ≤ b) : Below B w (set8 w b u0 u1 u2 u3 u4 u5 u6 u7) := ((((((((Below.refl B w).setCell h _).setCell h _).setCell h _).setCell h _).setCell h _).setCell h _).setCell h _).setCell h _
theorem set8_blk {x0 x1 x2 x3 x4 x5 x6 x7 : Value} {t : TypeId} (h : Blk w b #[x0, x1, x2, x3, x4, x5, x6, x7] t) : Blk (set8 w b u0 u1 u2 u3 u4 u5 u6 u7) b #[u0, u1, u2, u3, u4, u5, u6, u7] t := by
  have := (((((((h.set 0 u0).set 1 u1).set 2 u2).set 3 u3).set 4 u4).set 5 u5).set 6 u6).set 7 u7
  simpa using this
end
theorem set8_other {w : World} {b c : Nat} {vs : Array Value} {t : TypeId} {u0 u1 u2 u3 u4 u5 u6 u7 : Value} (hc : c ≠ b) (h : Blk w c vs t) : Blk (set8 w b u0 u1 u2 u3 u4 u5 u6 u7) c vs t := (set8_heap u0 u1 u2 u3 u4 u5 u6 u7 hc).trans h
theorem OwnC.set8 {t t' : TypeId} {B : Nat} {w : World} {v : Value} {l : List Pr} {g : Nat} {vs : Array Value} (h : OwnC t B w v l) (hg : Blk w g vs t') (ht : t ≠ t') (u0 u1 u2 u3 u4 u5 u6 u7 : Value) : OwnC t B (set8 w g u0 u1 u2 u3 u4 u5 u6 u7) v l := by
  obtain ⟨o, c, h1, h2, h3⟩ := h
  exact ⟨o, c, h1, h2.same fun k hk => set8_heap _ _ _ _ _ _ _ _ (fun e => h2.ne_blk hg ht (by rw [hk, e])), h3⟩
theorem OwnD.set8 {t t' : TypeId} {B : Nat} {w : World} {x : Ti} {T : Tr} {g : Nat} {vs : Array Value} (h : OwnD t B w x T) (hg : Blk w g vs t') (ht : t ≠ t') (u0 u1 u2 u3 u4 u5 u6 u7 : Value) : OwnD t B (Kit.set8 w g u0 u1 u2 u3 u4 u5 u6 u7) x T :=
  ⟨h.1.set8 hg ht _ _ _ _ _ _ _ _, h.2.set8 hg ht _ _ _ _ _ _ _ _⟩
end Go.Proofs.Kit
namespace Go.Proofs.Ytlhigfphfbmbjaa
open Go.RowKit Go.Proofs.Kit Go.Shelf
/-- A merge of nothing. -/
abbrev mzV : Array Value := #[.slice none 0 0, .slice none 0 0, .slice none 0 0, .slice none 0 0, .bool false, .int .i64 0, .slice none 0 0, .slice none 0 0]
set_option maxHeartbeats 1000000 in
theorem store8 {K : Act → World → Prop} {Q : Exit → Act → World → Prop} {op : Oper} {p v : Nat} {tmps : Array Value} {ds : List Deferred} {w : World} {b : Nat} {y0 y1 y2 y3 y4 y5 y6 y7 : Value} {a0 a1 a2 a3 a6 a7 : Option Addr} {n0 n1 n2 n3 n6 n7 c0 c1 c2 c3 c6 c7 : Nat} {ob : Bool} {k : Int}
    (e1 : op.op = Op.store 26 (Operand.tmp p) (Operand.tmp v)) (e2 : op.dst = none) (hp : tmps.getD p undef = .pointer (some ⟨b, 0, none⟩))
    (hv : tmps.getD v undef = .agg #[.slice a0 n0 c0, .slice a1 n1 c1, .slice a2 n2 c2, .slice a3 n3 c3, .bool ob, .int .i64 k, .slice a6 n6 c6, .slice a7 n7 c7]) (hb : Blk w b #[y0, y1, y2, y3, y4, y5, y6, y7] 26)
    (hK : ∀ W, W = set8 w b (.slice a0 n0 c0) (.slice a1 n1 c1) (.slice a2 n2 c2) (.slice a3 n3 c3) (.bool ob) (.int .i64 k) (.slice a6 n6 c6) (.slice a7 n7 c7) → K { tmps := tmps, defers := ds } W) : Oper.wp Try.prog op { tmps := tmps, defers := ds } w K Q := by
  have v0 := hb.cell 0
  have v1 := hb.cell 1
  have v2 := hb.cell 2
  have v3 := hb.cell 3
  have v4 := hb.cell 4
  have v5 := hb.cell 5
  have v6 := hb.cell 6
  have v7 := hb.cell 7
  have f0 := hb.frozen 0
  have f1 := hb.frozen 1
  have f2 := hb.frozen 2
  have f3 := hb.frozen 3
  have f4 := hb.frozen 4
  have f5 := hb.frozen 5
  have f6 := hb.frozen 6
  have f7 := hb.frozen 7
  have lb := hb.lt
  simp only [List.getElem?_toArray, List.getElem?_cons_zero, List.getElem?_cons_succ] at v0 v1 v2 v3 v4 v5 v6 v7
  obtain ⟨dst, op, ty, pos, after, guard⟩ := op
  simp only at e1 e2
  subst e1 e2
  have HKK := Lib.hid hK
  clear hK hb
  go_simp
  exact HKK.out _ rfl
/-- What holds while the parts are laid. -/
structure GOI (w0 : World) (bm br : Nat) (x y z : Ti) (t u A : Tr) (o : Bool) (at' n : Nat) (L : Nat → Bool) (w : World) (t5 t6 t7 t8 t9 t10 t11 t12 t13 t14 t15 t16 t17 t18 t19 t20 : Value) (x' y' z' : Ti) : Prop where
  low : Below w0.heap.size w0 w
  km : Blk w bm (mgV x y z o (at' : Int)) 26
  kr0 : L 16 = false → Blk w br mzV 26
  kr1 : L 16 = true → Blk w br (mgV x' y' z' o ((at' : Int) + (n : Int))) 26
  h5 : L 0 = true → t5 = .pointer (some ⟨bm, 0, none⟩)
  h6 : L 1 = true → t6 = .agg #[x.av, x.bv]
  h7 : L 2 = true → t7 = .agg #[x'.av, x'.bv] ∧ OwnD 53 w0.heap.size w x' t
  h8 : L 3 = true → t8 = .pointer (some ⟨bm, 2, none⟩)
  h9 : L 4 = true → t9 = .agg #[y.av, y.bv]
  h10 : L 5 = true → t10 = .agg #[y'.av, y'.bv] ∧ OwnD 53 w0.heap.size w y' u
  h11 : L 6 = true → t11 = .pointer (some ⟨bm, 4, none⟩)
  h12 : L 7 = true → t12 = .bool o
  h13 : L 8 = true → t13 = .pointer (some ⟨bm, 5, none⟩)
  h14 : L 9 = true → t14 = .int .i64 (at' : Int)
  h15 : L 10 = true → t15 = .int .i64 (n : Int)
  h16 : L 11 = true → t16 = .int .i64 ((at' : Int) + (n : Int))
  h17 : L 12 = true → t17 = .agg (mgV x y z o (at' : Int))
  h18 : L 13 = true → t18 = .int .i64 (n : Int)
  h19 : L 14 = true → t19 = .agg #[z'.av, z'.bv] ∧ OwnD 53 w0.heap.size w z' (accT o t u A at' (at' + n))
  h20 : L 15 = true → t20 = .agg (mgV x' y' z' o ((at' : Int) + (n : Int)))
  s2 : L 15 = true → L 2 = true
  s5 : L 15 = true → L 5 = true
  s14 : L 15 = true → L 14 = true
  s16 : L 16 = true → L 15 = true
def GOV (w0 : World) (bm br : Nat) (x y z : Ti) (t u A : Tr) (o : Bool) (at' n : Nat) (L : Nat → Bool) (a : Act) (X : World) : Prop :=
  ∃ t5 t6 t7 t8 t9 t10 t11 t12 t13 t14 t15 t16 t17 t18 t19 t20 x' y' z', a = { tmps := #[.agg (mgV x y z o (at' : Int)), .int .i64 (n : Int), .pointer (some ⟨bm, 0, none⟩), undef, .pointer (some ⟨br, 0, none⟩), t5, t6, t7, t8, t9, t10, t11, t12, t13, t14, t15, t16, t17, t18, t19, t20], defers := [] } ∧ GOI w0 bm br x y z t u A o at' n L X t5 t6 t7 t8 t9 t10 t11 t12 t13 t14 t15 t16 t17 t18 t19 t20 x' y' z'
set_option maxRecDepth 100000 in
set_option maxHeartbeats 16000000 in
theorem goneOn_any (x y z : Ti) (t u A : Tr) (o : Bool) (at' n : Nat) (w : World) (h1 : TR w x t) (h2 : TR w y u) (h3 : TR w z A) (ht : oneT t) (hu : oneT u)
    (hl : (t.1.length ≤ 1000 ∧ t.2.length ≤ 1000) ∧ (u.1.length ≤ 1000 ∧ u.2.length ≤ 1000)) (hA : A.1.length ≤ 100000 ∧ A.2.length ≤ 100000) (hk : at' + n ≤ (allP t u).length) :
    Calls Try.prog 55 #[.agg (mgV x y z o at'), .int .i64 (n : Int)] w fun e w' => ∃ x' y' z', e = .returned (.agg (mgV x' y' z' o ((at' : Int) + (n : Int)))) ∧ OwnD 53 w.heap.size w' x' t ∧ OwnD 53 w.heap.size w' y' u ∧
      OwnD 53 w.heap.size w' z' (accT o t u A at' (at' + n)) ∧ Below w.heap.size w w' := by
  have hmix := mixed
  have hu4 := allP_len (m := 1000) ⟨hl.1.1, hl.1.2, hl.2.1, hl.2.2⟩
  have HCX := Lib.hid (fun W (hb : Below w.heap.size w W) => copiedM_any x t W (h1.later hb) (by omega))
  have HCY := Lib.hid (fun W (hb : Below w.heap.size w W) => copiedM_any y u W (h2.later hb) (by omega))
  have HCO := Lib.hid (fun W (hb : Below w.heap.size w W) => outB_any x y z t u A o at' n W (h1.later hb) (h2.later hb) (h3.later hb) ht hu hl hA hk)
  have hN : at' + n ≤ 4000 := by omega
  clear h1 h2 h3 ht hu hl hA hk hu4
  go_enter Try.func55, Try.ntmps55
  go_wp2_with fail
  obtain ⟨W1, hW1⟩ : ∃ W1, W1 = (w.alloc (.cells (mgV x y z o (at' : Int)) 26)).alloc (.cells mzV 26) := ⟨_, rfl⟩
  have G1 : Gr w W1 := by rw [hW1]; exact (Gr.alloc _ _).trans (Gr.alloc _ _)
  have k0 : Blk W1 w.heap.size (mgV x y z o (at' : Int)) 26 := by rw [hW1]; exact (Blk.new _ _ _).alloc _
  have k1 : Blk W1 (w.heap.size + 1) mzV 26 := by
    rw [hW1]
    have := Blk.new (w.alloc (.cells (mgV x y z o (at' : Int)) 26)) mzV 26
    simpa using this
  rw [← hW1]
  clear hW1
  refine wp_region_inv hmix (Inv := GOV w w.heap.size (w.heap.size + 1) x y z t u A o at' n) (by kernel_rfl) ?h0 ?hstep ?hdone
  case h0 =>
    exact ⟨undef, undef, undef, undef, undef, undef, undef, undef, undef, undef, undef, undef, undef, undef, undef, undef, ⟨none, 0, 0, none, 0, 0⟩, ⟨none, 0, 0, none, 0, 0⟩, ⟨none, 0, 0, none, 0, 0⟩, rfl, ⟨G1.below.drew, k0.drew, fun _ => k1.drew, nofun, nofun, nofun, nofun, nofun, nofun, nofun, nofun, nofun, nofun, nofun, nofun, nofun, nofun, nofun, nofun, nofun, nofun, nofun, nofun, nofun⟩⟩
  case hdone =>
    rintro L a X ⟨t5, t6, t7, t8, t9, t10, t11, t12, t13, t14, t15, t16, t17, t18, t19, t20, x', y', z', rfl, h⟩ hall
    have hkr := h.kr1 (hall 16 (by decide))
    obtain ⟨_, hA⟩ := h.h7 (hall 2 (by decide))
    obtain ⟨_, hB⟩ := h.h10 (hall 5 (by decide))
    obtain ⟨_, hC⟩ := h.h19 (hall 14 (by decide))
    have hlow := h.low
    have HH := Lib.hid (And.intro hA (And.intro hB (And.intro hC hlow)))
    clear h hall hA hB hC hlow
    have r0 := hkr.cell 0
    have r1 := hkr.cell 1
    have r2 := hkr.cell 2
    have r3 := hkr.cell 3
    have r4 := hkr.cell 4
    have r5 := hkr.cell 5
    have r6 := hkr.cell 6
    have r7 := hkr.cell 7
    simp only [mgV, List.getElem?_toArray, List.getElem?_cons_zero, List.getElem?_cons_succ] at r0 r1 r2 r3 r4 r5 r6 r7
    go_wp2
    refine bodyPost_ret (v := .agg (mgV x' y' z' o ((at' : Int) + (n : Int)))) (by simp [results, Try.results55, go_sem, mgV, r0, r1, r2, r3, r4, r5, r6, r7]) rfl ⟨x', y', z', rfl, HH.out.1, HH.out.2.1, HH.out.2.2.1, HH.out.2.2.2⟩
  case hstep =>
    clear G1 k0 k1
    have hge : w.heap.size ≤ w.heap.size + 1 := Nat.le_succ _
    have hgt : w.heap.size < w.heap.size + 1 := Nat.lt_succ_self _
    rintro L a X i op ⟨t5, t6, t7, t8, t9, t10, t11, t12, t13, t14, t15, t16, t17, t18, t19, t20, x', y', z', rfl, h⟩ hL ho hp
    have hi : i < 17 := (Array.getElem?_eq_some_iff.1 ho).1
    match i, hi, hL, ho, hp with
    | 0, _, hL, ho, hp =>
      simp only [List.getElem?_toArray, List.getElem?_cons_zero, Option.some.injEq] at ho
      subst ho
      rw [if_pos (by simp [Region.wanted])]
      go_simp
      exact ⟨_, _, _, _, _, _, _, _, _, _, _, _, _, _, _, _, x', y', z', rfl, ⟨h.low, h.km, h.kr0, h.kr1, fun _ => rfl, h.h6, h.h7, h.h8, h.h9, h.h10, h.h11, h.h12, h.h13, h.h14, h.h15, h.h16, h.h17, h.h18, h.h19, h.h20, h.s2, h.s5, h.s14, h.s16⟩⟩
    | 1, _, hL, ho, hp =>
      simp only [List.getElem?_toArray, List.getElem?_cons_zero, List.getElem?_cons_succ, Option.some.injEq] at ho
      subst ho
      rw [if_pos (by simp [Region.wanted])]
      have p0 : L 0 = true := hp ⟨0, .data⟩ (by simp) rfl
      obtain rfl := h.h5 p0
      have c0 := h.km.cell 0
      have c1 := h.km.cell 1
      simp only [mgV, List.getElem?_toArray, List.getElem?_cons_zero, List.getElem?_cons_succ] at c0 c1
      go_simp
      exact ⟨_, _, _, _, _, _, _, _, _, _, _, _, _, _, _, _, x', y', z', rfl, ⟨h.low, h.km, h.kr0, h.kr1, h.h5, fun _ => rfl, h.h7, h.h8, h.h9, h.h10, h.h11, h.h12, h.h13, h.h14, h.h15, h.h16, h.h17, h.h18, h.h19, h.h20, h.s2, h.s5, h.s14, h.s16⟩⟩
    | 2, _, hL, ho, hp =>
      simp only [List.getElem?_toArray, List.getElem?_cons_zero, List.getElem?_cons_succ, Option.some.injEq] at ho
      subst ho
      rw [if_pos (by simp [Region.wanted])]
      have p1 : L 1 = true := hp ⟨1, .data⟩ (by simp) rfl
      obtain rfl := h.h6 p1
      go_simp
      go_at_call 59
      (with_reducible refine (HCX.out _ h.low).mono ?_)
      rintro e X2 ⟨q, rfl, hq, gb⟩
      have hsz := h.low.size
      have hlow2 := below_later h.low gb
      have hs2 := h.s2
      exact ⟨_, _, _, _, _, _, _, _, _, _, _, _, _, _, _, _, q, y', z', rfl, ⟨hlow2, h.km.later gb, fun e => (h.kr0 e).later gb, fun e => absurd (hs2 (h.s16 e)) (by rw [hL]; decide), h.h5, h.h6, fun _ => ⟨rfl, hq.mono hsz⟩, h.h8, h.h9, fun e => ⟨(h.h10 e).1, (h.h10 e).2.later gb⟩, h.h11, h.h12, h.h13, h.h14, h.h15, h.h16, h.h17, h.h18, fun e => ⟨(h.h19 e).1, (h.h19 e).2.later gb⟩, fun e => absurd (hs2 e) (by rw [hL]; decide), fun _ => rfl, h.s5, h.s14, h.s16⟩⟩
    | 3, _, hL, ho, hp =>
      simp only [List.getElem?_toArray, List.getElem?_cons_zero, List.getElem?_cons_succ, Option.some.injEq] at ho
      subst ho
      rw [if_pos (by simp [Region.wanted])]
      go_simp
      exact ⟨_, _, _, _, _, _, _, _, _, _, _, _, _, _, _, _, x', y', z', rfl, ⟨h.low, h.km, h.kr0, h.kr1, h.h5, h.h6, h.h7, fun _ => rfl, h.h9, h.h10, h.h11, h.h12, h.h13, h.h14, h.h15, h.h16, h.h17, h.h18, h.h19, h.h20, h.s2, h.s5, h.s14, h.s16⟩⟩
    | 4, _, hL, ho, hp =>
      simp only [List.getElem?_toArray, List.getElem?_cons_zero, List.getElem?_cons_succ, Option.some.injEq] at ho
      subst ho
      rw [if_pos (by simp [Region.wanted])]
      have p3 : L 3 = true := hp ⟨3, .data⟩ (by simp) rfl
      obtain rfl := h.h8 p3
      have c2 := h.km.cell 2
      have c3 := h.km.cell 3
      simp only [mgV, List.getElem?_toArray, List.getElem?_cons_zero, List.getElem?_cons_succ] at c2 c3
      go_simp
      exact ⟨_, _, _, _, _, _, _, _, _, _, _, _, _, _, _, _, x', y', z', rfl, ⟨h.low, h.km, h.kr0, h.kr1, h.h5, h.h6, h.h7, h.h8, fun _ => rfl, h.h10, h.h11, h.h12, h.h13, h.h14, h.h15, h.h16, h.h17, h.h18, h.h19, h.h20, h.s2, h.s5, h.s14, h.s16⟩⟩
    | 5, _, hL, ho, hp =>
      simp only [List.getElem?_toArray, List.getElem?_cons_zero, List.getElem?_cons_succ, Option.some.injEq] at ho
      subst ho
      rw [if_pos (by simp [Region.wanted])]
      have p4 : L 4 = true := hp ⟨4, .data⟩ (by simp) rfl
      obtain rfl := h.h9 p4
      go_simp
      go_at_call 59
      (with_reducible refine (HCY.out _ h.low).mono ?_)
      rintro e X2 ⟨q, rfl, hq, gb⟩
      have hsz := h.low.size
      have hlow2 := below_later h.low gb
      have hs5 := h.s5
      exact ⟨_, _, _, _, _, _, _, _, _, _, _, _, _, _, _, _, x', q, z', rfl, ⟨hlow2, h.km.later gb, fun e => (h.kr0 e).later gb, fun e => absurd (hs5 (h.s16 e)) (by rw [hL]; decide), h.h5, h.h6, fun e => ⟨(h.h7 e).1, (h.h7 e).2.later gb⟩, h.h8, h.h9, fun _ => ⟨rfl, hq.mono hsz⟩, h.h11, h.h12, h.h13, h.h14, h.h15, h.h16, h.h17, h.h18, fun e => ⟨(h.h19 e).1, (h.h19 e).2.later gb⟩, fun e => absurd (hs5 e) (by rw [hL]; decide), h.s2, fun _ => rfl, h.s14, h.s16⟩⟩
    | 6, _, hL, ho, hp =>
      simp only [List.getElem?_toArray, List.getElem?_cons_zero, List.getElem?_cons_succ, Option.some.injEq] at ho
      subst ho
      rw [if_pos (by simp [Region.wanted])]
      go_simp
      exact ⟨_, _, _, _, _, _, _, _, _, _, _, _, _, _, _, _, x', y', z', rfl, ⟨h.low, h.km, h.kr0, h.kr1, h.h5, h.h6, h.h7, h.h8, h.h9, h.h10, fun _ => rfl, h.h12, h.h13, h.h14, h.h15, h.h16, h.h17, h.h18, h.h19, h.h20, h.s2, h.s5, h.s14, h.s16⟩⟩
    | 7, _, hL, ho, hp =>
      simp only [List.getElem?_toArray, List.getElem?_cons_zero, List.getElem?_cons_succ, Option.some.injEq] at ho
      subst ho
      rw [if_pos (by simp [Region.wanted])]
      have p6 : L 6 = true := hp ⟨6, .data⟩ (by simp) rfl
      obtain rfl := h.h11 p6
      have c4 := h.km.cell 4
      simp only [mgV, List.getElem?_toArray, List.getElem?_cons_zero, List.getElem?_cons_succ] at c4
      go_simp
      exact ⟨_, _, _, _, _, _, _, _, _, _, _, _, _, _, _, _, x', y', z', rfl, ⟨h.low, h.km, h.kr0, h.kr1, h.h5, h.h6, h.h7, h.h8, h.h9, h.h10, h.h11, fun _ => rfl, h.h13, h.h14, h.h15, h.h16, h.h17, h.h18, h.h19, h.h20, h.s2, h.s5, h.s14, h.s16⟩⟩
    | 8, _, hL, ho, hp =>
      simp only [List.getElem?_toArray, List.getElem?_cons_zero, List.getElem?_cons_succ, Option.some.injEq] at ho
      subst ho
      rw [if_pos (by simp [Region.wanted])]
      go_simp
      exact ⟨_, _, _, _, _, _, _, _, _, _, _, _, _, _, _, _, x', y', z', rfl, ⟨h.low, h.km, h.kr0, h.kr1, h.h5, h.h6, h.h7, h.h8, h.h9, h.h10, h.h11, h.h12, fun _ => rfl, h.h14, h.h15, h.h16, h.h17, h.h18, h.h19, h.h20, h.s2, h.s5, h.s14, h.s16⟩⟩
    | 9, _, hL, ho, hp =>
      simp only [List.getElem?_toArray, List.getElem?_cons_zero, List.getElem?_cons_succ, Option.some.injEq] at ho
      subst ho
      rw [if_pos (by simp [Region.wanted])]
      have p8 : L 8 = true := hp ⟨8, .data⟩ (by simp) rfl
      obtain rfl := h.h13 p8
      have c5 := h.km.cell 5
      simp only [mgV, List.getElem?_toArray, List.getElem?_cons_zero, List.getElem?_cons_succ] at c5
      go_simp
      exact ⟨_, _, _, _, _, _, _, _, _, _, _, _, _, _, _, _, x', y', z', rfl, ⟨h.low, h.km, h.kr0, h.kr1, h.h5, h.h6, h.h7, h.h8, h.h9, h.h10, h.h11, h.h12, h.h13, fun _ => rfl, h.h15, h.h16, h.h17, h.h18, h.h19, h.h20, h.s2, h.s5, h.s14, h.s16⟩⟩
    | 10, _, hL, ho, hp =>
      simp only [List.getElem?_toArray, List.getElem?_cons_zero, List.getElem?_cons_succ, Option.some.injEq] at ho
      subst ho
      rw [if_pos (by simp [Region.wanted])]
      go_simp
      exact ⟨_, _, _, _, _, _, _, _, _, _, _, _, _, _, _, _, x', y', z', rfl, ⟨h.low, h.km, h.kr0, h.kr1, h.h5, h.h6, h.h7, h.h8, h.h9, h.h10, h.h11, h.h12, h.h13, h.h14, fun _ => rfl, h.h16, h.h17, h.h18, h.h19, h.h20, h.s2, h.s5, h.s14, h.s16⟩⟩
    | 11, _, hL, ho, hp =>
      simp only [List.getElem?_toArray, List.getElem?_cons_zero, List.getElem?_cons_succ, Option.some.injEq] at ho
      subst ho
      rw [if_pos (by simp [Region.wanted])]
      have p9 : L 9 = true := hp ⟨9, .data⟩ (by simp) rfl
      have p10 : L 10 = true := hp ⟨10, .data⟩ (by simp) rfl
      obtain rfl := h.h14 p9
      obtain rfl := h.h15 p10
      have hwr : IntKind.i64.wrap ((at' : Int) + (n : Int)) = (at' : Int) + (n : Int) := by rw [IntKind.wrap_i64]; omega
      go_simp
      exact ⟨_, _, _, _, _, _, _, _, _, _, _, _, _, _, _, _, x', y', z', rfl, ⟨h.low, h.km, h.kr0, h.kr1, h.h5, h.h6, h.h7, h.h8, h.h9, h.h10, h.h11, h.h12, h.h13, h.h14, h.h15, fun _ => rfl, h.h17, h.h18, h.h19, h.h20, h.s2, h.s5, h.s14, h.s16⟩⟩
    | 12, _, hL, ho, hp =>
      simp only [List.getElem?_toArray, List.getElem?_cons_zero, List.getElem?_cons_succ, Option.some.injEq] at ho
      subst ho
      rw [if_pos (by simp [Region.wanted])]
      have c0 := h.km.cell 0
      have c1 := h.km.cell 1
      have c2 := h.km.cell 2
      have c3 := h.km.cell 3
      have c4 := h.km.cell 4
      have c5 := h.km.cell 5
      have c6 := h.km.cell 6
      have c7 := h.km.cell 7
      simp only [mgV, List.getElem?_toArray, List.getElem?_cons_zero, List.getElem?_cons_succ] at c0 c1 c2 c3 c4 c5 c6 c7
      go_simp
      exact ⟨_, _, _, _, _, _, _, _, _, _, _, _, _, _, _, _, x', y', z', rfl, ⟨h.low, h.km, h.kr0, h.kr1, h.h5, h.h6, h.h7, h.h8, h.h9, h.h10, h.h11, h.h12, h.h13, h.h14, h.h15, h.h16, fun _ => rfl, h.h18, h.h19, h.h20, h.s2, h.s5, h.s14, h.s16⟩⟩
    | 13, _, hL, ho, hp =>
      simp only [List.getElem?_toArray, List.getElem?_cons_zero, List.getElem?_cons_succ, Option.some.injEq] at ho
      subst ho
      rw [if_pos (by simp [Region.wanted])]
      go_simp
      exact ⟨_, _, _, _, _, _, _, _, _, _, _, _, _, _, _, _, x', y', z', rfl, ⟨h.low, h.km, h.kr0, h.kr1, h.h5, h.h6, h.h7, h.h8, h.h9, h.h10, h.h11, h.h12, h.h13, h.h14, h.h15, h.h16, h.h17, fun _ => rfl, h.h19, h.h20, h.s2, h.s5, h.s14, h.s16⟩⟩
    | 14, _, hL, ho, hp =>
      simp only [List.getElem?_toArray, List.getElem?_cons_zero, List.getElem?_cons_succ, Option.some.injEq] at ho
      subst ho
      rw [if_pos (by simp [Region.wanted])]
      have p12 : L 12 = true := hp ⟨12, .data⟩ (by simp) rfl
      have p13 : L 13 = true := hp ⟨13, .data⟩ (by simp) rfl
      obtain rfl := h.h17 p12
      obtain rfl := h.h18 p13
      go_simp
      go_at_call 78
      (with_reducible refine (HCO.out _ h.low).mono ?_)
      rintro e X2 ⟨q, rfl, hq, gb⟩
      have hsz := h.low.size
      have hlow2 := below_later h.low gb
      have hs14 := h.s14
      exact ⟨_, _, _, _, _, _, _, _, _, _, _, _, _, _, _, _, x', y', q, rfl, ⟨hlow2, h.km.later gb, fun e => (h.kr0 e).later gb, fun e => absurd (hs14 (h.s16 e)) (by rw [hL]; decide), h.h5, h.h6, fun e => ⟨(h.h7 e).1, (h.h7 e).2.later gb⟩, h.h8, h.h9, fun e => ⟨(h.h10 e).1, (h.h10 e).2.later gb⟩, h.h11, h.h12, h.h13, h.h14, h.h15, h.h16, h.h17, h.h18, fun _ => ⟨rfl, hq.mono hsz⟩, fun e => absurd (hs14 e) (by rw [hL]; decide), h.s2, h.s5, fun _ => rfl, h.s16⟩⟩
    | 15, _, hL, ho, hp =>
      simp only [List.getElem?_toArray, List.getElem?_cons_zero, List.getElem?_cons_succ, Option.some.injEq] at ho
      subst ho
      rw [if_pos (by simp [Region.wanted])]
      have p2 : L 2 = true := hp ⟨2, .data⟩ (by simp) rfl
      have p5 : L 5 = true := hp ⟨5, .data⟩ (by simp) rfl
      have p7 : L 7 = true := hp ⟨7, .data⟩ (by simp) rfl
      have p11 : L 11 = true := hp ⟨11, .data⟩ (by simp) rfl
      have p14 : L 14 = true := hp ⟨14, .data⟩ (by simp) rfl
      obtain ⟨rfl, hq1⟩ := h.h7 p2
      obtain ⟨rfl, hq2⟩ := h.h10 p5
      obtain rfl := h.h12 p7
      obtain rfl := h.h16 p11
      obtain ⟨rfl, hq3⟩ := h.h19 p14
      go_simp
      exact ⟨_, _, _, _, _, _, _, _, _, _, _, _, _, _, _, _, x', y', z', rfl, ⟨h.low, h.km, h.kr0, h.kr1, h.h5, h.h6, h.h7, h.h8, h.h9, h.h10, h.h11, h.h12, h.h13, h.h14, h.h15, h.h16, h.h17, h.h18, h.h19, fun _ => rfl, fun _ => p2, fun _ => p5, fun _ => p14, fun _ => rfl⟩⟩
    | 16, _, hL, ho, hp =>
      simp only [List.getElem?_toArray, List.getElem?_cons_zero, List.getElem?_cons_succ, Option.some.injEq] at ho
      subst ho
      rw [if_pos (by simp [Region.wanted])]
      have p15 : L 15 = true := hp ⟨15, .data⟩ (by simp) rfl
      obtain rfl := h.h20 p15
      have hkr := h.kr0 hL
      refine store8 (p := 4) (v := 20) rfl rfl rfl rfl hkr (fun W hW => ?_)
      rw [hW]
      exact ⟨_, _, _, _, _, _, _, _, _, _, _, _, _, _, _, _, x', y', z', rfl, ⟨(h.low.trans (set8_below _ _ _ _ _ _ _ _ hge)), (set8_other (Nat.ne_of_lt hgt) h.km), fun e => absurd ((upd_same L 16).symm.trans e) (by decide), fun _ => set8_blk _ _ _ _ _ _ _ _ hkr, h.h5, h.h6, fun e => ⟨(h.h7 e).1, (h.h7 e).2.set8 hkr (by decide) _ _ _ _ _ _ _ _⟩, h.h8, h.h9, fun e => ⟨(h.h10 e).1, (h.h10 e).2.set8 hkr (by decide) _ _ _ _ _ _ _ _⟩, h.h11, h.h12, h.h13, h.h14, h.h15, h.h16, h.h17, h.h18, fun e => ⟨(h.h19 e).1, (h.h19 e).2.set8 hkr (by decide) _ _ _ _ _ _ _ _⟩, h.h20, h.s2, h.s5, h.s14, fun _ => p15⟩⟩
end Go.Proofs.Ytlhigfphfbmbjaa


/- merge.begun, parts. -/
namespace Go.Proofs.Ytlhigfphfbmbjaa
open Go.RowKit Go.Proofs.Kit Go.Shelf
abbrev noTi : Ti := ⟨none, 0, 0, none, 0, 0⟩
set_option maxRecDepth 100000 in
set_option maxHeartbeats 4000000 in
theorem begun_any (x y : Ti) (o : Bool) (w : World) : Calls Try.prog 56 #[.agg #[x.av, x.bv], .agg #[y.av, y.bv], .bool o] w fun e w' => e = .returned (.agg (mgV x y noTi o 0)) ∧ Below w.heap.size w w' := by
  obtain ⟨ao, an, ac, bo, bn, bc⟩ := x
  obtain ⟨ao', an', ac', bo', bn', bc'⟩ := y
  simp only [mgV, Ti.av, Ti.bv]
  have hbd : ∀ (a1 a2 a3 b1 b2 b3 : _) (a4 a5 a6 b4 b5 b6 : _) (q : Bool) (w : World), (Instr.build 26 #[(0, .agg #[.slice a1 a2 a3, .slice b1 b2 b3]), (1, .agg #[.slice a4 a5 a6, .slice b4 b5 b6]), (2, .bool q)]).run Try.prog w = .ok (.agg #[.slice a1 a2 a3, .slice b1 b2 b3, .slice a4 a5 a6, .slice b4 b5 b6, .bool q, .int .i64 0, .slice none 0 0, .slice none 0 0]) w := fun _ _ _ _ _ _ _ _ _ _ _ _ _ _ => by kernel_rfl
  go_enter Try.func56, Try.ntmps56
  go_wp2_with fail
  have G := (((Gr.alloc w (.cells #[.slice ao an ac, .slice bo bn bc] 24)).trans (Gr.alloc _ (.cells #[.slice ao' an' ac', .slice bo' bn' bc'] 24))).trans (Gr.alloc _ (.cells #[.slice ao an ac, .slice bo bn bc, .slice ao' an' ac', .slice bo' bn' bc', .bool o, .int .i64 0, .slice none 0 0, .slice none 0 0] 26)))
  have kr := Blk.new ((w.alloc (.cells #[.slice ao an ac, .slice bo bn bc] 24)).alloc (.cells #[.slice ao' an' ac', .slice bo' bn' bc'] 24)) #[.slice ao an ac, .slice bo bn bc, .slice ao' an' ac', .slice bo' bn' bc', .bool o, .int .i64 0, .slice none 0 0, .slice none 0 0] 26
  obtain ⟨W1, hW1⟩ : ∃ W1, W1 = ((w.alloc (.cells #[.slice ao an ac, .slice bo bn bc] 24)).alloc (.cells #[.slice ao' an' ac', .slice bo' bn' bc'] 24)).alloc (.cells #[.slice ao an ac, .slice bo bn bc, .slice ao' an' ac', .slice bo' bn' bc', .bool o, .int .i64 0, .slice none 0 0, .slice none 0 0] 26) := ⟨_, rfl⟩
  rw [← hW1] at G kr ⊢
  clear hW1
  simp only [World.size_alloc] at kr
  have r0 := kr.cell 0
  have r1 := kr.cell 1
  have r2 := kr.cell 2
  have r3 := kr.cell 3
  have r4 := kr.cell 4
  have r5 := kr.cell 5
  have r6 := kr.cell 6
  have r7 := kr.cell 7
  simp only [List.getElem?_toArray, List.getElem?_cons_zero, List.getElem?_cons_succ] at r0 r1 r2 r3 r4 r5 r6 r7
  exact bodyPost_ret (v := .agg #[.slice ao an ac, .slice bo bn bc, .slice ao' an' ac', .slice bo' bn' bc', .bool o, .int .i64 0, .slice none 0 0, .slice none 0 0]) (by simp [results, Try.results56, go_sem, r0, r1, r2, r3, r4, r5, r6, r7]) rfl ⟨rfl, G.below⟩
/-- Rows of tiers in one block. -/
theorem segM1 {w : World} {b : Nat} {x : Ti} {t : Tr} (hb : Blk w b #[x.av, x.bv] 24) (h : TR w x t) : SegT w (.slice (some ⟨b, 0, none⟩) 1 1) [t] := by
  refine ⟨[x], SegE.of_blk (E := tiE) (l := [x]) (cap := 1) hb (by simp) (by decide) rfl, rfl, fun i a b => ?_⟩
  obtain rfl : i = 0 := by simp at a; omega
  exact h
theorem segM2 {w : World} {b : Nat} {x y : Ti} {t u : Tr} (hb : Blk w b #[x.av, x.bv, y.av, y.bv] 24) (h1 : TR w x t) (h2 : TR w y u) : SegT w (.slice (some ⟨b, 0, none⟩) 2 2) [t, u] := by
  refine ⟨[x, y], SegE.of_blk (E := tiE) (l := [x, y]) (cap := 2) hb (by simp) (by decide) rfl, rfl, fun i a b => ?_⟩
  match i, a, b with
  | 0, _, _ => exact h1
  | 1, _, _ => exact h2
theorem segM3 {w : World} {b : Nat} {x y z : Ti} {t u v : Tr} (hb : Blk w b #[x.av, x.bv, y.av, y.bv, z.av, z.bv] 24) (h1 : TR w x t) (h2 : TR w y u) (h3 : TR w z v) : SegT w (.slice (some ⟨b, 0, none⟩) 3 3) [t, u, v] := by
  refine ⟨[x, y, z], SegE.of_blk (E := tiE) (l := [x, y, z]) (cap := 3) hb (by simp) (by decide) rfl, rfl, fun i a b => ?_⟩
  match i, a, b with
  | 0, _, _ => exact h1
  | 1, _, _ => exact h2
  | 2, _, _ => exact h3
set_option maxRecDepth 100000 in
set_option maxHeartbeats 4000000 in
theorem partsM_any (x y z : Ti) (t u A : Tr) (o : Bool) (k : Int) (w : World) (h1 : TR w x t) (h2 : TR w y u) (h3 : TR w z A) : Calls Try.prog 53 #[.agg (mgV x y z o k)] w fun e w' => ∃ v, e = .returned v ∧ SegT w' v [t, u, A] ∧ Gr w w' := by
  obtain ⟨ao, an, ac, bo, bn, bc⟩ := x
  obtain ⟨ao', an', ac', bo', bn', bc'⟩ := y
  obtain ⟨ao2, an2, ac2, bo2, bn2, bc2⟩ := z
  have HT := Lib.hid (And.intro h1 (And.intro h2 h3))
  simp only [mgV, Ti.av, Ti.bv]
  clear h1 h2 h3
  go_enter Try.func53, Try.ntmps53
  go_wp2
  go_ret
  have G := (Gr.alloc w (.cells #[.slice ao an ac, .slice bo bn bc, .slice ao' an' ac', .slice bo' bn' bc', .bool o, .int .i64 k, .slice ao2 an2 ac2, .slice bo2 bn2 bc2] 26)).trans (Gr.alloc _ (.cells #[.slice ao an ac, .slice bo bn bc, .slice ao' an' ac', .slice bo' bn' bc', .slice ao2 an2 ac2, .slice bo2 bn2 bc2] 24))
  have kb := Blk.new (w.alloc (.cells #[.slice ao an ac, .slice bo bn bc, .slice ao' an' ac', .slice bo' bn' bc', .bool o, .int .i64 k, .slice ao2 an2 ac2, .slice bo2 bn2 bc2] 26)) #[.slice ao an ac, .slice bo bn bc, .slice ao' an' ac', .slice bo' bn' bc', .slice ao2 an2 ac2, .slice bo2 bn2 bc2] 24
  simp only [World.size_alloc] at kb
  exact ⟨_, rfl, segM3 (x := ⟨ao, an, ac, bo, bn, bc⟩) (y := ⟨ao', an', ac', bo', bn', bc'⟩) (z := ⟨ao2, an2, ac2, bo2, bn2, bc2⟩) kb (HT.out.1.later G.below) (HT.out.2.1.later G.below) (HT.out.2.2.later G.below), G⟩
end Go.Proofs.Ytlhigfphfbmbjaa


/- merge.left: the region that reckons what has been done, by one invariant. Written by tools/gen_m12.py. -/
namespace Go.Proofs.Kit
open Go.RowKit
theorem OwnC.set2 {t t' : TypeId} {B : Nat} {w : World} {v : Value} {l : List Pr} {g : Nat} {vs : Array Value} (h : OwnC t B w v l) (hg : Blk w g vs t') (ht : t ≠ t') (u0 u1 : Value) : OwnC t B ((w.setCell ⟨g, 0, none⟩ u0).setCell ⟨g, 1, none⟩ u1) v l := by
  obtain ⟨o, c, h1, h2, h3⟩ := h
  exact ⟨o, c, h1, h2.otherB2 hg ht 0 1 u0 u1, h3⟩
theorem OwnD.set2 {t t' : TypeId} {B : Nat} {w : World} {x : Ti} {T : Tr} {g : Nat} {vs : Array Value} (h : OwnD t B w x T) (hg : Blk w g vs t') (ht : t ≠ t') (u0 u1 : Value) : OwnD t B ((w.setCell ⟨g, 0, none⟩ u0).setCell ⟨g, 1, none⟩ u1) x T := ⟨h.1.set2 hg ht u0 u1, h.2.set2 hg ht u0 u1⟩
end Go.Proofs.Kit
namespace Go.Proofs.Ytlhigfphfbmbjaa
open Go.RowKit Go.Proofs.Kit Go.Shelf
structure LFI (w0 : World) (bm : Nat) (x y z : Ti) (t u : Tr) (o : Bool) (n : Nat) (L : Nat → Bool) (w : World) (t5 t31 t32 t33 t34 t35 t36 t37 t38 t39 t40 : Value) (z' : Ti) (b5 : Nat) : Prop where
  low : Below w0.heap.size w0 w
  km : Blk w bm (mgV x y z o (n : Int)) 26
  h31 : L 0 = true → t31 = .pointer (some ⟨bm, 0, none⟩)
  h32 : L 1 = true → t32 = .agg #[x.av, x.bv]
  h33 : L 2 = true → t33 = .pointer (some ⟨bm, 2, none⟩)
  h34 : L 3 = true → t34 = .agg #[y.av, y.bv]
  h35 : L 4 = true → t35 = .pointer (some ⟨bm, 4, none⟩)
  h36 : L 5 = true → t36 = .bool o
  h37 : L 6 = true → t37 = .agg (mgV x y noTi o 0)
  h38 : L 7 = true → t38 = .pointer (some ⟨bm, 5, none⟩)
  h39 : L 8 = true → t39 = .int .i64 (n : Int)
  h40 : L 9 = true → t40 = .agg #[z'.av, z'.bv] ∧ OwnD 53 w0.heap.size w z' (accT o t u ([], []) 0 (0 + n))
  h5 : L 10 = true → t5 = .pointer (some ⟨b5, 0, none⟩) ∧ w0.heap.size ≤ b5
  k0 : L 10 = true → L 11 = false → Blk w b5 #[.slice none 0 0, .slice none 0 0] 24
  k1 : L 11 = true → Blk w b5 #[z'.av, z'.bv] 24
  s9 : L 11 = true → L 9 = true
  s10 : L 11 = true → L 10 = true
def LFV (w0 : World) (bm : Nat) (s10 : Value) (x y z : Ti) (t u : Tr) (o : Bool) (q n : Nat) (L : Nat → Bool) (a : Act) (X : World) : Prop :=
  ∃ t5 t31 t32 t33 t34 t35 t36 t37 t38 t39 t40 z' b5, a = { tmps := #[.agg (mgV x y z o (n : Int)), .pointer (some ⟨bm, 0, none⟩), .int .i64 0, .bool false, .int .i64 (q : Int), t5, .pointer (some ⟨bm, 0, none⟩), .agg #[x.av, x.bv], .pointer (some ⟨bm, 2, none⟩), .agg #[y.av, y.bv], s10, .int .i64 0, .bool false, .pointer (some ⟨bm, 0, none⟩), .agg #[x.av, x.bv], .pointer (some ⟨bm, 2, none⟩), .agg #[y.av, y.bv], .int .i64 (q : Int), .int .i64 (q : Int), .bool false, .bool false, .pointer (some ⟨bm, 5, none⟩), .int .i64 (n : Int), .bool false, .bool false, .bool false, .pointer (some ⟨bm, 5, none⟩), .int .i64 (n : Int), .int .i64 (q : Int), .bool false, .bool false, t31, t32, t33, t34, t35, t36, t37, t38, t39, t40, undef, undef, undef, undef, undef, undef, undef, undef, undef, undef, undef], defers := [] } ∧ LFI w0 bm x y z t u o n L X t5 t31 t32 t33 t34 t35 t36 t37 t38 t39 t40 z' b5
set_option maxRecDepth 100000 in
set_option maxHeartbeats 16000000 in
theorem left_region {Q : Exit → Act → World → Prop} (w0 : World) (bm : Nat) (s10 : Value) (x y z : Ti) (t u : Tr) (o : Bool) (q n : Nat) (W : World) (a : Act) (ha : a = { tmps := ({ tmps := #[.agg (mgV x y z o (n : Int)), .pointer (some ⟨bm, 0, none⟩), .int .i64 0, .bool false, .int .i64 (q : Int), undef, .pointer (some ⟨bm, 0, none⟩), .agg #[x.av, x.bv], .pointer (some ⟨bm, 2, none⟩), .agg #[y.av, y.bv], s10, .int .i64 0, .bool false, .pointer (some ⟨bm, 0, none⟩), .agg #[x.av, x.bv], .pointer (some ⟨bm, 2, none⟩), .agg #[y.av, y.bv], .int .i64 (q : Int), .int .i64 (q : Int), .bool false, .bool false, .pointer (some ⟨bm, 5, none⟩), .int .i64 (n : Int), .bool false, .bool false, .bool false, .pointer (some ⟨bm, 5, none⟩), .int .i64 (n : Int), .int .i64 (q : Int), .bool false, .bool false, undef, undef, undef, undef, undef, undef, undef, undef, undef, undef, undef, undef, undef, undef, undef, undef, undef, undef, undef, undef, undef], defers := [] } : Act).tmps, defers := [] }) (hlow : Below w0.heap.size w0 W) (hkm : Blk W bm (mgV x y z o (n : Int)) 26)
    (HCO : Hid (∀ W, Below w0.heap.size w0 W → Calls Try.prog 78 #[.agg (mgV x y noTi o 0), .int .i64 (n : Int)] W fun e w' => ∃ z' : Ti, e = .returned (.agg #[z'.av, z'.bv]) ∧ OwnD 53 W.heap.size w' z' (accT o t u ([], []) 0 (0 + n)) ∧ Below W.heap.size W w'))
    (hQ : ∀ t5 t31 t32 t33 t34 t35 t36 t37 t38 t39 t40 z' b5 X, Below w0.heap.size w0 X → Blk X bm (mgV x y z o (n : Int)) 26 → Blk X b5 #[z'.av, z'.bv] 24 → OwnD 53 w0.heap.size X z' (accT o t u ([], []) 0 (0 + n)) → t5 = .pointer (some ⟨b5, 0, none⟩) → Q .normal { tmps := #[.agg (mgV x y z o (n : Int)), .pointer (some ⟨bm, 0, none⟩), .int .i64 0, .bool false, .int .i64 (q : Int), t5, .pointer (some ⟨bm, 0, none⟩), .agg #[x.av, x.bv], .pointer (some ⟨bm, 2, none⟩), .agg #[y.av, y.bv], s10, .int .i64 0, .bool false, .pointer (some ⟨bm, 0, none⟩), .agg #[x.av, x.bv], .pointer (some ⟨bm, 2, none⟩), .agg #[y.av, y.bv], .int .i64 (q : Int), .int .i64 (q : Int), .bool false, .bool false, .pointer (some ⟨bm, 5, none⟩), .int .i64 (n : Int), .bool false, .bool false, .bool false, .pointer (some ⟨bm, 5, none⟩), .int .i64 (n : Int), .int .i64 (q : Int), .bool false, .bool false, t31, t32, t33, t34, t35, t36, t37, t38, t39, t40, undef, undef, undef, undef, undef, undef, undef, undef, undef, undef, undef], defers := [] } X) :
    (Code.region 6 #[{ dst := some 31, op := Op.fieldAddr 26 (Operand.tmp 1) 0, type := 0, pos := "steps.go:25", after := #[], guard := none }, { dst := some 32, op := Op.load 24 (Operand.tmp 31), type := 24, pos := "steps.go:25", after := #[{ on := 0, ground := Ground.data }], guard := none }, { dst := some 33, op := Op.fieldAddr 26 (Operand.tmp 1) 1, type := 0, pos := "steps.go:25", after := #[], guard := none }, { dst := some 34, op := Op.load 24 (Operand.tmp 33), type := 24, pos := "steps.go:25", after := #[{ on := 2, ground := Ground.data }], guard := none }, { dst := some 35, op := Op.fieldAddr 26 (Operand.tmp 1) 2, type := 0, pos := "steps.go:25", after := #[], guard := none }, { dst := some 36, op := Op.load 4 (Operand.tmp 35), type := 4, pos := "steps.go:25", after := #[{ on := 4, ground := Ground.data }], guard := none }, { dst := some 37, op := Op.call { callee := Callee.value (Operand.func 56), args := #[Operand.tmp 32, Operand.tmp 34, Operand.tmp 36], argTypes := #[24, 24, 4] }, type := 26, pos := "steps.go:25", after := #[{ on := 1, ground := Ground.data }, { on := 3, ground := Ground.data }, { on := 5, ground := Ground.data }], guard := none }, { dst := some 38, op := Op.fieldAddr 26 (Operand.tmp 1) 3, type := 0, pos := "steps.go:25", after := #[], guard := none }, { dst := some 39, op := Op.load 3 (Operand.tmp 38), type := 3, pos := "steps.go:25", after := #[{ on := 7, ground := Ground.data }], guard := none }, { dst := some 40, op := Op.call { callee := Callee.value (Operand.func 78), args := #[Operand.tmp 37, Operand.tmp 39], argTypes := #[26, 3] }, type := 24, pos := "steps.go:25", after := #[{ on := 6, ground := Ground.data }, { on := 8, ground := Ground.data }, { on := 6, ground := Ground.chain }], guard := none }, { dst := some 5, op := Op.alloc 24, type := 0, pos := "steps.go:25", after := #[], guard := none }, { dst := none, op := Op.store 24 (Operand.tmp 5) (Operand.tmp 40), type := 0, pos := "steps.go:25", after := #[{ on := 10, ground := Ground.data }, { on := 9, ground := Ground.data }, { on := 9, ground := Ground.chain }, { on := 0, ground := Ground.phase }, { on := 1, ground := Ground.phase }, { on := 2, ground := Ground.phase }, { on := 3, ground := Ground.phase }, { on := 4, ground := Ground.phase }, { on := 5, ground := Ground.phase }, { on := 6, ground := Ground.phase }, { on := 7, ground := Ground.phase }, { on := 8, ground := Ground.phase }, { on := 9, ground := Ground.phase }, { on := 10, ground := Ground.phase }], guard := none }] true).wp Try.prog Q a W := by
  have hmix := mixed
  refine wp_region_inv hmix (Inv := LFV w0 bm s10 x y z t u o q n) (by kernel_rfl) ?h0 ?hstep ?hdone
  case h0 =>
    subst ha
    exact ⟨undef, undef, undef, undef, undef, undef, undef, undef, undef, undef, undef, noTi, 0, rfl, ⟨hlow.drew, hkm.drew, nofun, nofun, nofun, nofun, nofun, nofun, nofun, nofun, nofun, nofun, nofun, nofun, nofun, nofun, nofun⟩⟩
  case hdone =>
    rintro L a X ⟨t5, t31, t32, t33, t34, t35, t36, t37, t38, t39, t40, z', b5, rfl, h⟩ hall
    exact hQ t5 t31 t32 t33 t34 t35 t36 t37 t38 t39 t40 z' b5 X h.low h.km (h.k1 (hall 11 (by decide))) (h.h40 (hall 9 (by decide))).2 (h.h5 (hall 10 (by decide))).1
  case hstep =>
    clear hQ ha hlow hkm
    rintro L a X i op ⟨t5, t31, t32, t33, t34, t35, t36, t37, t38, t39, t40, z', b5, rfl, h⟩ hL ho hp
    have hi : i < 12 := (Array.getElem?_eq_some_iff.1 ho).1
    match i, hi, hL, ho, hp with
    | 0, _, hL, ho, hp =>
      simp only [List.getElem?_toArray, List.getElem?_cons_zero, Option.some.injEq] at ho
      subst ho
      rw [if_pos (by simp [Region.wanted])]
      go_simp
      exact ⟨_, _, _, _, _, _, _, _, _, _, _, z', b5, rfl, ⟨h.low, h.km, fun _ => rfl, h.h32, h.h33, h.h34, h.h35, h.h36, h.h37, h.h38, h.h39, h.h40, h.h5, h.k0, h.k1, h.s9, h.s10⟩⟩
    | 1, _, hL, ho, hp =>
      simp only [List.getElem?_toArray, List.getElem?_cons_zero, List.getElem?_cons_succ, Option.some.injEq] at ho
      subst ho
      rw [if_pos (by simp [Region.wanted])]
      have p0 : L 0 = true := hp ⟨0, .data⟩ (by simp) rfl
      obtain rfl := h.h31 p0
      have c0 := h.km.cell 0
      have c1 := h.km.cell 1
      simp only [mgV, List.getElem?_toArray, List.getElem?_cons_zero, List.getElem?_cons_succ] at c0 c1
      go_simp
      exact ⟨_, _, _, _, _, _, _, _, _, _, _, z', b5, rfl, ⟨h.low, h.km, h.h31, fun _ => rfl, h.h33, h.h34, h.h35, h.h36, h.h37, h.h38, h.h39, h.h40, h.h5, h.k0, h.k1, h.s9, h.s10⟩⟩
    | 2, _, hL, ho, hp =>
      simp only [List.getElem?_toArray, List.getElem?_cons_zero, List.getElem?_cons_succ, Option.some.injEq] at ho
      subst ho
      rw [if_pos (by simp [Region.wanted])]
      go_simp
      exact ⟨_, _, _, _, _, _, _, _, _, _, _, z', b5, rfl, ⟨h.low, h.km, h.h31, h.h32, fun _ => rfl, h.h34, h.h35, h.h36, h.h37, h.h38, h.h39, h.h40, h.h5, h.k0, h.k1, h.s9, h.s10⟩⟩
    | 3, _, hL, ho, hp =>
      simp only [List.getElem?_toArray, List.getElem?_cons_zero, List.getElem?_cons_succ, Option.some.injEq] at ho
      subst ho
      rw [if_pos (by simp [Region.wanted])]
      have p2 : L 2 = true := hp ⟨2, .data⟩ (by simp) rfl
      obtain rfl := h.h33 p2
      have c2 := h.km.cell 2
      have c3 := h.km.cell 3
      simp only [mgV, List.getElem?_toArray, List.getElem?_cons_zero, List.getElem?_cons_succ] at c2 c3
      go_simp
      exact ⟨_, _, _, _, _, _, _, _, _, _, _, z', b5, rfl, ⟨h.low, h.km, h.h31, h.h32, h.h33, fun _ => rfl, h.h35, h.h36, h.h37, h.h38, h.h39, h.h40, h.h5, h.k0, h.k1, h.s9, h.s10⟩⟩
    | 4, _, hL, ho, hp =>
      simp only [List.getElem?_toArray, List.getElem?_cons_zero, List.getElem?_cons_succ, Option.some.injEq] at ho
      subst ho
      rw [if_pos (by simp [Region.wanted])]
      go_simp
      exact ⟨_, _, _, _, _, _, _, _, _, _, _, z', b5, rfl, ⟨h.low, h.km, h.h31, h.h32, h.h33, h.h34, fun _ => rfl, h.h36, h.h37, h.h38, h.h39, h.h40, h.h5, h.k0, h.k1, h.s9, h.s10⟩⟩
    | 5, _, hL, ho, hp =>
      simp only [List.getElem?_toArray, List.getElem?_cons_zero, List.getElem?_cons_succ, Option.some.injEq] at ho
      subst ho
      rw [if_pos (by simp [Region.wanted])]
      have p4 : L 4 = true := hp ⟨4, .data⟩ (by simp) rfl
      obtain rfl := h.h35 p4
      have c4 := h.km.cell 4
      simp only [mgV, List.getElem?_toArray, List.getElem?_cons_zero, List.getElem?_cons_succ] at c4
      go_simp
      exact ⟨_, _, _, _, _, _, _, _, _, _, _, z', b5, rfl, ⟨h.low, h.km, h.h31, h.h32, h.h33, h.h34, h.h35, fun _ => rfl, h.h37, h.h38, h.h39, h.h40, h.h5, h.k0, h.k1, h.s9, h.s10⟩⟩
    | 6, _, hL, ho, hp =>
      simp only [List.getElem?_toArray, List.getElem?_cons_zero, List.getElem?_cons_succ, Option.some.injEq] at ho
      subst ho
      rw [if_pos (by simp [Region.wanted])]
      have p1 : L 1 = true := hp ⟨1, .data⟩ (by simp) rfl
      have p3 : L 3 = true := hp ⟨3, .data⟩ (by simp) rfl
      have p5 : L 5 = true := hp ⟨5, .data⟩ (by simp) rfl
      obtain rfl := h.h32 p1
      obtain rfl := h.h34 p3
      obtain rfl := h.h36 p5
      go_simp
      go_at_call 56
      (with_reducible refine (begun_any x y o _).mono ?_)
      rintro e X2 ⟨rfl, gb⟩
      have hlow2 := below_later h.low gb
      exact ⟨_, _, _, _, _, _, _, _, _, _, _, z', b5, rfl, ⟨hlow2, h.km.later gb, h.h31, h.h32, h.h33, h.h34, h.h35, h.h36, fun _ => rfl, h.h38, h.h39, fun e => ⟨(h.h40 e).1, (h.h40 e).2.later gb⟩, h.h5, fun e e2 => (h.k0 e e2).later gb, fun e => (h.k1 e).later gb, h.s9, h.s10⟩⟩
    | 7, _, hL, ho, hp =>
      simp only [List.getElem?_toArray, List.getElem?_cons_zero, List.getElem?_cons_succ, Option.some.injEq] at ho
      subst ho
      rw [if_pos (by simp [Region.wanted])]
      go_simp
      exact ⟨_, _, _, _, _, _, _, _, _, _, _, z', b5, rfl, ⟨h.low, h.km, h.h31, h.h32, h.h33, h.h34, h.h35, h.h36, h.h37, fun _ => rfl, h.h39, h.h40, h.h5, h.k0, h.k1, h.s9, h.s10⟩⟩
    | 8, _, hL, ho, hp =>
      simp only [List.getElem?_toArray, List.getElem?_cons_zero, List.getElem?_cons_succ, Option.some.injEq] at ho
      subst ho
      rw [if_pos (by simp [Region.wanted])]
      have p7 : L 7 = true := hp ⟨7, .data⟩ (by simp) rfl
      obtain rfl := h.h38 p7
      have c5 := h.km.cell 5
      simp only [mgV, List.getElem?_toArray, List.getElem?_cons_zero, List.getElem?_cons_succ] at c5
      go_simp
      exact ⟨_, _, _, _, _, _, _, _, _, _, _, z', b5, rfl, ⟨h.low, h.km, h.h31, h.h32, h.h33, h.h34, h.h35, h.h36, h.h37, h.h38, fun _ => rfl, h.h40, h.h5, h.k0, h.k1, h.s9, h.s10⟩⟩
    | 9, _, hL, ho, hp =>
      simp only [List.getElem?_toArray, List.getElem?_cons_zero, List.getElem?_cons_succ, Option.some.injEq] at ho
      subst ho
      rw [if_pos (by simp [Region.wanted])]
      have p6 : L 6 = true := hp ⟨6, .data⟩ (by simp) rfl
      have p8 : L 8 = true := hp ⟨8, .data⟩ (by simp) rfl
      obtain rfl := h.h37 p6
      obtain rfl := h.h39 p8
      go_simp
      go_at_call 78
      (with_reducible refine (HCO.out _ h.low).mono ?_)
      rintro e X2 ⟨q2, rfl, hq, gb⟩
      have hsz := h.low.size
      have hlow2 := below_later h.low gb
      exact ⟨_, _, _, _, _, _, _, _, _, _, _, q2, b5, rfl, ⟨hlow2, h.km.later gb, h.h31, h.h32, h.h33, h.h34, h.h35, h.h36, h.h37, h.h38, h.h39, fun _ => ⟨rfl, hq.mono hsz⟩, h.h5, fun e e2 => (h.k0 e e2).later gb, fun e => absurd (h.s9 e) (by rw [hL]; decide), fun _ => rfl, h.s10⟩⟩
    | 10, _, hL, ho, hp =>
      simp only [List.getElem?_toArray, List.getElem?_cons_zero, List.getElem?_cons_succ, Option.some.injEq] at ho
      subst ho
      rw [if_pos (by simp [Region.wanted])]
      go_simp
      have gb := (Gr.alloc X (.cells #[.slice none 0 0, .slice none 0 0] 24)).below
      have hlow2 := below_later h.low gb
      exact ⟨_, _, _, _, _, _, _, _, _, _, _, z', X.heap.size, rfl, ⟨hlow2, h.km.later gb, h.h31, h.h32, h.h33, h.h34, h.h35, h.h36, h.h37, h.h38, h.h39, fun e => ⟨(h.h40 e).1, (h.h40 e).2.later gb⟩, fun _ => ⟨rfl, h.low.size⟩, fun _ _ => Blk.new _ _ _, fun e => absurd (h.s10 e) (by rw [hL]; decide), h.s9, fun _ => rfl⟩⟩
    | 11, _, hL, ho, hp =>
      simp only [List.getElem?_toArray, List.getElem?_cons_zero, List.getElem?_cons_succ, Option.some.injEq] at ho
      subst ho
      rw [if_pos (by simp [Region.wanted])]
      have p10 : L 10 = true := hp ⟨10, .data⟩ (by simp) rfl
      have p9 : L 9 = true := hp ⟨9, .data⟩ (by simp) rfl
      obtain ⟨rfl, hge⟩ := h.h5 p10
      obtain ⟨rfl, hq⟩ := h.h40 p9
      have hkr := h.k0 p10 hL
      have c0 := hkr.cell 0
      have c1 := hkr.cell 1
      have f0 := hkr.frozen 0
      have f1 := hkr.frozen 1
      have lr := hkr.lt
      simp only [List.getElem?_toArray, List.getElem?_cons_zero, List.getElem?_cons_succ] at c0 c1
      go_simp
      exact ⟨_, _, _, _, _, _, _, _, _, _, _, z', b5, rfl, ⟨(h.low.setCell (p := ⟨b5, 0, none⟩) hge _).setCell (p := ⟨b5, 1, none⟩) hge _, (h.km.other (p := ⟨b5, 0, none⟩) (h.km.ne hkr (by decide)) _).other (p := ⟨b5, 1, none⟩) (h.km.ne hkr (by decide)) _, h.h31, h.h32, h.h33, h.h34, h.h35, h.h36, h.h37, h.h38, h.h39, fun _ => ⟨rfl, hq.set2 hkr (by decide) _ _⟩, h.h5, fun _ e => absurd ((upd_same L 11).symm.trans e) (by decide), fun _ => hkr.setT, fun _ => p9, fun _ => p10⟩⟩
end Go.Proofs.Ytlhigfphfbmbjaa


/- merge.left. -/
namespace Go.Proofs.Kit
open Go.RowKit
/-- Whether a merge may be, and how many steps are left. -/
def okM (t u A : Tr) (o : Bool) (k : Int) : Prop := (oneT t ∧ oneT u) ∧ (0 ≤ k ∧ k ≤ ((allP t u).length : Int)) ∧ A = outT o t u k.toNat
instance (t u A : Tr) (o : Bool) (k : Int) : Decidable (okM t u A o k) := by unfold okM; infer_instance
def leftM (t u A : Tr) (o : Bool) (k : Int) : Int := if okM t u A o k then ((allP t u).length : Int) - k else 0
theorem accT_zero (o : Bool) (t u : Tr) (n : Nat) : accT o t u ([], []) 0 n = outT o t u n := by
  unfold accT addT outT
  simp
theorem accT_out (o : Bool) (t u : Tr) (k n : Nat) : accT o t u (outT o t u k) k (k + n) = outT o t u (k + n) := by
  have e : (allP t u).take (k + n) = (allP t u).take k ++ ((allP t u).take (k + n)).drop k := by
    have h := List.take_append_drop k ((allP t u).take (k + n))
    rw [List.take_take, Nat.min_eq_left (by omega)] at h
    exact h.symm
  unfold accT addT outT toT
  conv => rhs; rw [e]
  cases o <;> simp only [List.filter_append, Bool.false_eq_true, if_false, if_true, List.append_nil]
end Go.Proofs.Kit
namespace Go.Proofs.Ytlhigfphfbmbjaa
open Go.RowKit Go.Proofs.Kit Go.Shelf
set_option maxRecDepth 100000 in
set_option maxHeartbeats 16000000 in
theorem left_any (x y z : Ti) (t u A : Tr) (o : Bool) (k : Int) (w : World) (h1 : TR w x t) (h2 : TR w y u) (h3 : TR w z A)
    (hl : (t.1.length ≤ 1000 ∧ t.2.length ≤ 1000) ∧ (u.1.length ≤ 1000 ∧ u.2.length ≤ 1000)) (b : Bool) (hb : b = decide (okM t u A o k)) :
    Calls Try.prog 51 #[.agg (mgV x y z o k)] w fun e w' => e = .returned (.tuple #[.int .i64 (leftM t u A o k), .bool b]) ∧ Below w.heap.size w w' := by
  have hmix := mixed
  have hu4 := allP_len (m := 1000) ⟨hl.1.1, hl.1.2, hl.2.1, hl.2.2⟩
  have HC := Lib.hid (fun W b (hk : Blk W b #[x.av, x.bv, y.av, y.bv] 24) (hb : Below w.heap.size w W) => check11_any _ [t, u] W (segM2 hk (h1.later hb) (h2.later hb)) (fun r hr => by simp at hr; rcases hr with rfl | rfl <;> omega))
  have HP := Lib.hid (fun W (hb : Below w.heap.size w W) => pairsOf_any x y t u W (h1.later hb) (h2.later hb) hl)
  have HCO := Lib.hid (fun W (n : Nat) (hb : Below w.heap.size w W) (ht : oneT t) (hu : oneT u) (hk : 0 + n ≤ (allP t u).length) => outB_any x y noTi t u ([], []) o 0 n W (h1.later hb) (h2.later hb) ⟨SegP.nil _, SegP.nil _⟩ ht hu hl (by simp) hk)
  have HS := Lib.hid (fun W b1 b2 (z' : Ti) (T : Tr) (hk1 : Blk W b1 #[z.av, z.bv] 24) (hk2 : Blk W b2 #[z'.av, z'.bv] 24) (hb : Below w.heap.size w W) (hz : TR W z' T) (r : Bool) (hr : r = decide ([A] = [T])) => same11_any _ _ [A] [T] W (segM1 hk1 (h3.later hb)) (segM1 hk2 hz) r hr)
  have HBE := Lib.hid (fun W => begun_any x y o W)
  have HU4 := Lib.hid hu4
  have HOK := Lib.hid hb
  obtain ⟨lv, hlv⟩ : ∃ lv, lv = leftM t u A o k := ⟨_, rfl⟩
  have HLV := Lib.hid hlv
  rw [← hlv]
  obtain ⟨q, hq⟩ : ∃ q, q = (allP t u).length := ⟨_, rfl⟩
  have HQ := Lib.hid hq
  rw [← hq] at HP hu4
  obtain ⟨ao, an, ac, bo, bn, bc⟩ := x
  obtain ⟨ao', an', ac', bo', bn', bc'⟩ := y
  obtain ⟨ao2, an2, ac2, bo2, bn2, bc2⟩ := z
  simp only [mgV, Ti.av, Ti.bv] at HC HP HCO HS HBE ⊢
  clear h1 h2 h3 hl hb hlv hq
  go_enter Try.func51, Try.ntmps51
  go_wp2_with fail
  have km := (Blk.new w #[.slice ao an ac, .slice bo bn bc, .slice ao' an' ac', .slice bo' bn' bc', .bool o, .int .i64 k, .slice ao2 an2 ac2, .slice bo2 bn2 bc2] 26)
  have kb := Blk.new (w.alloc (.cells #[.slice ao an ac, .slice bo bn bc, .slice ao' an' ac', .slice bo' bn' bc', .bool o, .int .i64 k, .slice ao2 an2 ac2, .slice bo2 bn2 bc2] 26)) #[.slice ao an ac, .slice bo bn bc, .slice ao' an' ac', .slice bo' bn' bc'] 24
  have G0 := (Gr.alloc w (.cells #[.slice ao an ac, .slice bo bn bc, .slice ao' an' ac', .slice bo' bn' bc', .bool o, .int .i64 k, .slice ao2 an2 ac2, .slice bo2 bn2 bc2] 26)).trans (Gr.alloc _ (.cells #[.slice ao an ac, .slice bo bn bc, .slice ao' an' ac', .slice bo' bn' bc'] 24))
  simp only [World.size_alloc] at kb
  refine (HC.out _ _ kb G0.below).mono ?_
  rintro e w1 ⟨rfl, b1⟩
  have KM := Lib.hid ((km.alloc (.cells #[.slice ao an ac, .slice bo bn bc, .slice ao' an' ac', .slice bo' bn' bc'] 24)).later b1)
  have L1 := Lib.hid (below_later G0.below b1)
  have m0 := KM.out.cell 0
  have m1 := KM.out.cell 1
  have m2 := KM.out.cell 2
  have m3 := KM.out.cell 3
  have lm := KM.out.lt
  simp only [List.getElem?_toArray, List.getElem?_cons_zero, List.getElem?_cons_succ] at m0 m1 m2 m3
  clear km kb G0 b1 HC
  by_cases hg : oneT t ∧ oneT u
  · have e1 : ckT [t, u] = 0 := ckT_yes (good2.2 hg)
    rw [e1]
    have HG := Lib.hid hg
    clear e1 hg
    go_wp2_with fail
    refine (HP.out _ L1.out).mono ?_
    rintro e w2 ⟨rfl, b2⟩
    have KM := Lib.hid (KM.out.later b2)
    have L2 := Lib.hid (below_later L1.out b2)
    have m4 := KM.out.cell 4
    have m0 := KM.out.cell 0
    have m1 := KM.out.cell 1
    have m2 := KM.out.cell 2
    have m3 := KM.out.cell 3
    have m5 := KM.out.cell 5
    have lm := KM.out.lt
    simp only [List.getElem?_toArray, List.getElem?_cons_zero, List.getElem?_cons_succ] at m0 m1 m2 m3 m4 m5
    have hq1 : decide (1048576 < q) = false := decide_eq_false (by omega)
    have hq2 : decide ((1048576 : Int) < (q : Int)) = false := decide_eq_false (by omega)
    clear b2 L1 HP
    by_cases hk : 0 ≤ k ∧ k ≤ (q : Int)
    · obtain ⟨n, rfl⟩ : ∃ n : Nat, k = (n : Int) := ⟨k.toNat, by omega⟩
      have hk1 : decide (n ≤ q) = true := decide_eq_true (by omega)
      have hk2 : decide (q < n) = false := decide_eq_false (by omega)
      have hk3 : decide ((n : Int) < 0) = false := decide_eq_false (by omega)
      go_wp2_with fail
      have HCO2 := Lib.hid (fun W (hb : Below w.heap.size w W) => HCO.out W n hb HG.out.1 HG.out.2 (by have := HQ.out; omega))
      refine left_region w w.heap.size _ ⟨ao, an, ac, bo, bn, bc⟩ ⟨ao', an', ac', bo', bn', bc'⟩ ⟨ao2, an2, ac2, bo2, bn2, bc2⟩ t u o q n w2 _ rfl L2.out KM.out HCO2 ?_
      rintro t5 t31 t32 t33 t34 t35 t36 t37 t38 t39 t40 z' b5 X hlow hkm hk5 hz rfl
      rw [accT_zero] at hz
      have KX := Lib.hid hkm
      have K5 := Lib.hid hk5
      have LX := Lib.hid hlow
      obtain ⟨oz, nz, cz, oz', nz', cz'⟩ := z'
      have HZ := Lib.hid (show TR X ⟨oz, nz, cz, oz', nz', cz'⟩ (outT o t u (0 + n)) from hz.tr)
      have m5 := hkm.cell 5
      have m6 := hkm.cell 6
      have m7 := hkm.cell 7
      have lm := hkm.lt
      have d0 := hk5.cell 0
      have d1 := hk5.cell 1
      have l5 := hk5.lt
      simp only [mgV, Ti.av, Ti.bv, List.getElem?_toArray, List.getElem?_cons_zero, List.getElem?_cons_succ] at m5 m6 m7 d0 d1
      clear m0 m1 m2 m3 m4 hlow hkm hk5 hz
      simp only [mgV, Ti.av, Ti.bv]
      go_wp2_with fail
      have ka := (Blk.new X #[.slice ao2 an2 ac2, .slice bo2 bn2 bc2] 24).alloc (.cells #[.slice oz nz cz, .slice oz' nz' cz'] 24)
      have kb := Blk.new (X.alloc (.cells #[.slice ao2 an2 ac2, .slice bo2 bn2 bc2] 24)) #[.slice oz nz cz, .slice oz' nz' cz'] 24
      have GX := ((Gr.alloc X (.cells #[.slice ao2 an2 ac2, .slice bo2 bn2 bc2] 24)).trans (Gr.alloc _ (.cells #[.slice oz nz cz, .slice oz' nz' cz'] 24))).below
      simp only [World.size_alloc] at kb
      obtain ⟨r, hr⟩ : ∃ r, r = decide ([A] = [outT o t u (0 + n)]) := ⟨_, rfl⟩
      have hbr : b = r := by
        rw [HOK.out, hr]
        have e : okM t u A o (n : Int) ↔ [A] = [outT o t u (0 + n)] := by
          unfold okM
          rw [Int.toNat_natCast, ← HQ.out, Nat.zero_add]
          constructor
          · intro h; rw [h.2.2]
          · intro h; exact ⟨HG.out, hk, by injection h⟩
        rw [decide_eq_decide.2 e]
      have HSR := Lib.hid (HS.out _ _ _ ⟨oz, nz, cz, oz', nz', cz'⟩ _ ka kb (below_later LX.out GX) (HZ.out.later GX) r hr)
      have LY := Lib.hid (below_later LX.out GX)
      have KY := Lib.hid (KX.out.later GX)
      clear ka kb GX hr m5 m6 m7 lm d0 d1 l5 HS K5 HZ LX KX
      refine HSR.out.mono ?_
      rintro e w4 ⟨rfl, g4⟩
      have KZ := Lib.hid (KY.out.later g4.below)
      have LZ := Lib.hid (below_later LY.out g4.below)
      have m5 := KZ.out.cell 5
      have lm := KZ.out.lt
      simp only [mgV, List.getElem?_toArray, List.getElem?_cons_zero, List.getElem?_cons_succ] at m5
      clear g4 HSR LY KY
      subst hbr
      cases b
      · have hlf : lv = 0 := by rw [HLV.out, leftM, if_neg (of_decide_eq_false HOK.out.symm)]
        subst hlf
        go_wp2
        go_ret2
        exact ⟨rfl, LZ.out⟩
      · have hlf : lv = (q : Int) - (n : Int) := by rw [HLV.out, leftM, if_pos (of_decide_eq_true HOK.out.symm), ← HQ.out]
        have hwr : IntKind.i64.wrap ((q : Int) - (n : Int)) = (q : Int) - (n : Int) := by rw [IntKind.wrap_i64]; omega
        subst hlf
        go_wp2
        go_ret2
        exact ⟨rfl, LZ.out⟩
    · have hbf : b = false := by rw [HOK.out]; exact decide_eq_false (fun c => hk (by rw [HQ.out]; exact c.2.1))
      have hlf : lv = 0 := by rw [HLV.out, leftM, if_neg (fun c => hk (by rw [HQ.out]; exact c.2.1))]
      subst hbf hlf
      by_cases hneg : k < 0
      · have t1 : decide (k < 0) = true := decide_eq_true hneg
        clear hk
        go_wp2
        go_ret2
        exact ⟨rfl, L2.out⟩
      · have t1 : decide (k < 0) = false := decide_eq_false hneg
        have t2 : decide ((q : Int) < k) = true := decide_eq_true (by omega)
        clear hk
        go_wp2
        go_ret2
        exact ⟨rfl, L2.out⟩
  · have e1 : ckT [t, u] = 210 := ckT_no (fun c => hg (good2.1 c))
    rw [e1]
    have hbf : b = false := by rw [HOK.out]; exact decide_eq_false (fun c => hg c.1)
    have hlf : lv = 0 := by rw [HLV.out, leftM, if_neg (fun c => hg c.1)]
    subst hbf hlf
    clear hg e1
    go_wp2
    go_ret2
    exact ⟨rfl, L1.out⟩
end Go.Proofs.Ytlhigfphfbmbjaa


/- merge.Check, Left, Begin, Step, End. -/
namespace Go.Proofs.Kit
open Go.RowKit
/-- A merge of the call's own memory, cut. -/
structure OwnM (tp : TypeId) (B : Nat) (w : World) (x y z : Ti) (t u A : Tr) : Prop where
  x : OwnD tp B w x t
  y : OwnD tp B w y u
  z : OwnD tp B w z A
theorem OwnM.later {tp : TypeId} {B : Nat} {w w' : World} {x y z : Ti} {t u A : Tr} (h : OwnM tp B w x y z t u A) (hb : Below w.heap.size w w') : OwnM tp B w' x y z t u A := ⟨h.x.later hb, h.y.later hb, h.z.later hb⟩
theorem OwnM.mono {tp : TypeId} {B B' : Nat} {w : World} {x y z : Ti} {t u A : Tr} (h : OwnM tp B w x y z t u A) (hB : B' ≤ B) : OwnM tp B' w x y z t u A := ⟨h.x.mono hB, h.y.mono hB, h.z.mono hB⟩
theorem OwnM.set8 {t' tp : TypeId} {B : Nat} {w : World} {x y z : Ti} {t u A : Tr} {g : Nat} {vs : Array Value} (h : OwnM tp B w x y z t u A) (hg : Blk w g vs t') (ht : tp ≠ t') (u0 u1 u2 u3 u4 u5 u6 u7 : Value) : OwnM tp B (Kit.set8 w g u0 u1 u2 u3 u4 u5 u6 u7) x y z t u A :=
  ⟨h.x.set8 hg ht _ _ _ _ _ _ _ _, h.y.set8 hg ht _ _ _ _ _ _ _ _, h.z.set8 hg ht _ _ _ _ _ _ _ _⟩
theorem OwnM.nil (tp : TypeId) (B : Nat) (w : World) : OwnM tp B w ⟨none, 0, 0, none, 0, 0⟩ ⟨none, 0, 0, none, 0, 0⟩ ⟨none, 0, 0, none, 0, 0⟩ ([], []) ([], []) ([], []) := ⟨OwnD.nil _ _ _, OwnD.nil _ _ _, OwnD.nil _ _ _⟩
theorem Blk.all8 {w : World} {b : Nat} {x0 x1 x2 x3 x4 x5 x6 x7 : Value} {t : TypeId} (h : Blk w b #[x0, x1, x2, x3, x4, x5, x6, x7] t) :
    (w.cell? ⟨b, 0, none⟩ = some x0 ∧ w.cell? ⟨b, 1, none⟩ = some x1 ∧ w.cell? ⟨b, 2, none⟩ = some x2 ∧ w.cell? ⟨b, 3, none⟩ = some x3 ∧ w.cell? ⟨b, 4, none⟩ = some x4 ∧ w.cell? ⟨b, 5, none⟩ = some x5 ∧ w.cell? ⟨b, 6, none⟩ = some x6 ∧ w.cell? ⟨b, 7, none⟩ = some x7) ∧ b < w.heap.size :=
  ⟨⟨h.cell 0, h.cell 1, h.cell 2, h.cell 3, h.cell 4, h.cell 5, h.cell 6, h.cell 7⟩, h.lt⟩
theorem Blk.frz8 {w : World} {b : Nat} {vs : Array Value} {t : TypeId} (h : Blk w b vs t) :
    w.frozen? ⟨b, 0, none⟩ = false ∧ w.frozen? ⟨b, 1, none⟩ = false ∧ w.frozen? ⟨b, 2, none⟩ = false ∧ w.frozen? ⟨b, 3, none⟩ = false ∧ w.frozen? ⟨b, 4, none⟩ = false ∧ w.frozen? ⟨b, 5, none⟩ = false ∧ w.frozen? ⟨b, 6, none⟩ = false ∧ w.frozen? ⟨b, 7, none⟩ = false :=
  ⟨h.frozen 0, h.frozen 1, h.frozen 2, h.frozen 3, h.frozen 4, h.frozen 5, h.frozen 6, h.frozen 7⟩
end Go.Proofs.Kit
namespace Go.Proofs.Ytlhigfphfbmbjaa
open Go.RowKit Go.Proofs.Kit Go.Shelf
/-- The rows are short. -/
def Sh (t u : Tr) : Prop := (t.1.length ≤ 1000 ∧ t.2.length ≤ 1000) ∧ (u.1.length ≤ 1000 ∧ u.2.length ≤ 1000)
section
variable (x y z : Ti) (t u A : Tr) (o : Bool) (k : Int) (w : World) (h1 : TR w x t) (h2 : TR w y u) (h3 : TR w z A) (hl : Sh t u)
include h1 h2 h3 hl
set_option maxRecDepth 100000 in
set_option maxHeartbeats 2000000 in
theorem checkM_any (b : Bool) (hb : b = decide (okM t u A o k)) : Calls Try.prog 13 #[.agg (mgV x y z o k)] w fun e w' => e = .returned (.int .i64 (if b then 0 else 220)) ∧ Below w.heap.size w w' := by
  have HL := Lib.hid (fun W (hb' : Below w.heap.size w W) => left_any x y z t u A o k W (h1.later hb') (h2.later hb') (h3.later hb') hl b hb)
  obtain ⟨ao, an, ac, bo, bn, bc⟩ := x
  obtain ⟨ao', an', ac', bo', bn', bc'⟩ := y
  obtain ⟨ao2, an2, ac2, bo2, bn2, bc2⟩ := z
  simp only [mgV, Ti.av, Ti.bv] at HL ⊢
  clear h1 h2 h3 hl hb
  go_enter Try.func13, Try.ntmps13
  go_wp2_with fail
  have G := (Gr.alloc w (.cells #[.slice ao an ac, .slice bo bn bc, .slice ao' an' ac', .slice bo' bn' bc', .bool o, .int .i64 k, .slice ao2 an2 ac2, .slice bo2 bn2 bc2] 26)).below
  refine (HL.out _ G).mono ?_
  rintro e w1 ⟨rfl, b1⟩
  have L1 := Lib.hid (below_later G b1)
  clear G b1 HL
  cases b
  · go_wp2
    go_ret
    exact ⟨rfl, L1.out⟩
  · go_wp2
    go_ret
    exact ⟨rfl, L1.out⟩
set_option maxRecDepth 100000 in
set_option maxHeartbeats 2000000 in
theorem leftS_any : Calls Try.prog 20 #[.agg (mgV x y z o k)] w fun e w' => e = .returned (.int .i64 (leftM t u A o k)) ∧ Below w.heap.size w w' := by
  have HL := Lib.hid (fun W (hb' : Below w.heap.size w W) => left_any x y z t u A o k W (h1.later hb') (h2.later hb') (h3.later hb') hl _ rfl)
  obtain ⟨ao, an, ac, bo, bn, bc⟩ := x
  obtain ⟨ao', an', ac', bo', bn', bc'⟩ := y
  obtain ⟨ao2, an2, ac2, bo2, bn2, bc2⟩ := z
  simp only [mgV, Ti.av, Ti.bv] at HL ⊢
  clear h1 h2 h3 hl
  go_enter Try.func20, Try.ntmps20
  go_wp2_with fail
  have G := (Gr.alloc w (.cells #[.slice ao an ac, .slice bo bn bc, .slice ao' an' ac', .slice bo' bn' bc', .bool o, .int .i64 k, .slice ao2 an2 ac2, .slice bo2 bn2 bc2] 26)).below
  refine (HL.out _ G).mono ?_
  rintro e w1 ⟨rfl, b1⟩
  have L1 := Lib.hid (below_later G b1)
  clear G b1 HL
  go_wp2
  go_ret
  exact ⟨rfl, L1.out⟩
/-- What Step says. -/
def stepE (n : Int) : Int := if okM t u A o k then (if n < 0 then 2 else 0) else 220
set_option maxRecDepth 100000 in
set_option maxHeartbeats 4000000 in
theorem stepM_ok (n : Int) (hok : okM t u A o k) (hn : 0 ≤ n) (q : Nat) (hq : (q : Int) = min n (leftM t u A o k)) :
    Calls Try.prog 21 #[.agg (mgV x y z o k), .int .i64 n] w fun e w' => ∃ x' y' z', e = .returned (.tuple #[.agg (mgV x' y' z' o (k + q)), .int .i64 q, .int .i64 0]) ∧ OwnM 53 w.heap.size w' x' y' z' t u (outT o t u (k.toNat + q)) ∧ Below w.heap.size w w' := by
  have hlm : leftM t u A o k = ((allP t u).length : Int) - k := if_pos hok
  have HL := Lib.hid (fun W (hb' : Below w.heap.size w W) => left_any x y z t u A o k W (h1.later hb') (h2.later hb') (h3.later hb') hl true (by simp [hok]))
  obtain ⟨hg, hk, rfl⟩ := hok
  obtain ⟨j, rfl⟩ : ∃ j : Nat, k = (j : Int) := ⟨k.toNat, by omega⟩
  simp only [Int.toNat_natCast] at *
  have hlen := outT_len o t u j
  have h4 := allP_len (m := 1000) ⟨hl.1.1, hl.1.2, hl.2.1, hl.2.2⟩
  have HG := Lib.hid (fun W (hb' : Below w.heap.size w W) => goneOn_any x y z t u (outT o t u j) o j q W (h1.later hb') (h2.later hb') (h3.later hb') hg.1 hg.2 hl (by omega) (by omega))
  rw [accT_out] at HG
  obtain ⟨lv, hlv⟩ : ∃ lv, lv = leftM t u (outT o t u j) o (j : Int) := ⟨_, rfl⟩
  rw [← hlv] at hq HL
  obtain ⟨ao, an, ac, bo, bn, bc⟩ := x
  obtain ⟨ao', an', ac', bo', bn', bc'⟩ := y
  obtain ⟨ao2, an2, ac2, bo2, bn2, bc2⟩ := z
  simp only [mgV, Ti.av, Ti.bv] at HL HG ⊢
  have hneg : decide (n < 0) = false := decide_eq_false (by omega)
  clear h1 h2 h3 hl hlm hlen h4 hlv
  go_enter Try.func21, Try.ntmps21
  go_wp2_with fail
  have G := ((Gr.alloc w (.cells #[.slice ao an ac, .slice bo bn bc, .slice ao' an' ac', .slice bo' bn' bc', .bool o, .int .i64 (j : Int), .slice ao2 an2 ac2, .slice bo2 bn2 bc2] 26)).trans (Gr.alloc _ (.cells mzV 26))).below
  have km := (Blk.new w #[.slice ao an ac, .slice bo bn bc, .slice ao' an' ac', .slice bo' bn' bc', .bool o, .int .i64 (j : Int), .slice ao2 an2 ac2, .slice bo2 bn2 bc2] 26).alloc (.cells mzV 26)
  have kr := Blk.new (w.alloc (.cells #[.slice ao an ac, .slice bo bn bc, .slice ao' an' ac', .slice bo' bn' bc', .bool o, .int .i64 (j : Int), .slice ao2 an2 ac2, .slice bo2 bn2 bc2] 26)) mzV 26
  simp only [World.size_alloc] at kr
  refine (HL.out _ G).mono ?_
  rintro e w1 ⟨rfl, b1⟩
  have KM := Lib.hid (km.later b1)
  have KR := Lib.hid (kr.later b1)
  have L1 := Lib.hid (below_later G b1)
  obtain ⟨⟨m0, m1, m2, m3, m4, m5, m6, m7⟩, lm⟩ := KM.out.all8
  clear G km kr b1 HL
  go_wp2_with fail
  rw [← hq]
  refine (HG.out _ L1.out).mono ?_
  rintro e w2 ⟨⟨xo, xn, xc, xo', xn', xc'⟩, ⟨yo, yn, yc, yo', yn', yc'⟩, ⟨zo, zn, zc, zo', zn', zc'⟩, rfl, hx, hy, hz, b2⟩
  have KR := Lib.hid (KR.out.later b2)
  have HM := Lib.hid ((⟨hx, hy, hz⟩ : OwnM _ _ _ _ _ _ _ _ _).mono L1.out.size)
  have L2 := Lib.hid (below_later L1.out b2)
  obtain ⟨⟨m0, m1, m2, m3, m4, m5, m6, m7⟩, lm⟩ := KR.out.all8
  obtain ⟨f0, f1, f2, f3, f4, f5, f6, f7⟩ := KR.out.frz8
  clear hx hy hz b2 L1 HG KM
  clear hq
  go_wp2
  have kf := set8_blk (.slice xo xn xc) (.slice xo' xn' xc') (.slice yo yn yc) (.slice yo' yn' yc') (.bool o) (.int .i64 ((j : Int) + (q : Int))) (.slice zo zn zc) (.slice zo' zn' zc') KR.out
  have hM := HM.out.set8 KR.out (by decide) (.slice xo xn xc) (.slice xo' xn' xc') (.slice yo yn yc) (.slice yo' yn' yc') (.bool o) (.int .i64 ((j : Int) + (q : Int))) (.slice zo zn zc) (.slice zo' zn' zc')
  have hL := L2.out.trans (set8_below (b := w.heap.size + 1) (.slice xo xn xc) (.slice xo' xn' xc') (.slice yo yn yc) (.slice yo' yn' yc') (.bool o) (.int .i64 ((j : Int) + (q : Int))) (.slice zo zn zc) (.slice zo' zn' zc') (Nat.le_succ _))
  change bodyPost _ _ _ _ _ (Kit.set8 w2 (w.heap.size + 1) (.slice xo xn xc) (.slice xo' xn' xc') (.slice yo yn yc) (.slice yo' yn' yc') (.bool o) (.int .i64 ((j : Int) + (q : Int))) (.slice zo zn zc) (.slice zo' zn' zc'))
  generalize Kit.set8 w2 (w.heap.size + 1) (.slice xo xn xc) (.slice xo' xn' xc') (.slice yo yn yc) (.slice yo' yn' yc') (.bool o) (.int .i64 ((j : Int) + (q : Int))) (.slice zo zn zc) (.slice zo' zn' zc') = Wf at kf hM hL ⊢
  obtain ⟨⟨r0, r1, r2, r3, r4, r5, r6, r7⟩, _⟩ := kf.all8
  refine bodyPost_ret (v := .tuple #[.agg #[.slice xo xn xc, .slice xo' xn' xc', .slice yo yn yc, .slice yo' yn' yc', .bool o, .int .i64 ((j : Int) + (q : Int)), .slice zo zn zc, .slice zo' zn' zc'], .int .i64 (q : Int), .int .i64 0]) (by simp [results, Try.results21, go_sem, r0, r1, r2, r3, r4, r5, r6, r7]) rfl ⟨⟨xo, xn, xc, xo', xn', xc'⟩, ⟨yo, yn, yc, yo', yn', yc'⟩, ⟨zo, zn, zc, zo', zn', zc'⟩, rfl, hM, hL⟩
set_option maxRecDepth 100000 in
set_option maxHeartbeats 4000000 in
theorem stepM_no (n : Int) (hno : stepE t u A o k n ≠ 0) :
    Calls Try.prog 21 #[.agg (mgV x y z o k), .int .i64 n] w fun e w' => e = .returned (.tuple #[.agg mzV, .int .i64 0, .int .i64 (stepE t u A o k n)]) ∧ Below w.heap.size w w' := by
  have hbz : ∀ w, (Instr.build 26 #[]).run Try.prog w = .ok (.agg #[.slice none 0 0, .slice none 0 0, .slice none 0 0, .slice none 0 0, .bool false, .int .i64 0, .slice none 0 0, .slice none 0 0]) w := fun w => by kernel_rfl
  obtain ⟨b, hb⟩ : ∃ b, b = decide (okM t u A o k) := ⟨_, rfl⟩
  have HL := Lib.hid (fun W (hb' : Below w.heap.size w W) => left_any x y z t u A o k W (h1.later hb') (h2.later hb') (h3.later hb') hl b hb)
  obtain ⟨lv, hlv⟩ : ∃ lv, lv = leftM t u A o k := ⟨_, rfl⟩
  rw [← hlv] at HL
  obtain ⟨se, hse⟩ : ∃ se, se = stepE t u A o k n := ⟨_, rfl⟩
  rw [← hse] at hno ⊢
  have HSE := Lib.hid hse
  have HB := Lib.hid hb
  obtain ⟨ao, an, ac, bo, bn, bc⟩ := x
  obtain ⟨ao', an', ac', bo', bn', bc'⟩ := y
  obtain ⟨ao2, an2, ac2, bo2, bn2, bc2⟩ := z
  simp only [mgV, Ti.av, Ti.bv] at HL ⊢
  clear h1 h2 h3 hl hlv hse hb
  go_enter Try.func21, Try.ntmps21
  go_wp2_with fail
  have G := ((Gr.alloc w (.cells #[.slice ao an ac, .slice bo bn bc, .slice ao' an' ac', .slice bo' bn' bc', .bool o, .int .i64 k, .slice ao2 an2 ac2, .slice bo2 bn2 bc2] 26)).trans (Gr.alloc _ (.cells mzV 26))).below
  have kr := Blk.new (w.alloc (.cells #[.slice ao an ac, .slice bo bn bc, .slice ao' an' ac', .slice bo' bn' bc', .bool o, .int .i64 k, .slice ao2 an2 ac2, .slice bo2 bn2 bc2] 26)) mzV 26
  simp only [World.size_alloc] at kr
  refine (HL.out _ G).mono ?_
  rintro e w1 ⟨rfl, b1⟩
  have KR := Lib.hid (kr.later b1)
  have L1 := Lib.hid (below_later G b1)
  obtain ⟨⟨m0, m1, m2, m3, m4, m5, m6, m7⟩, lm⟩ := KR.out.all8
  obtain ⟨f0, f1, f2, f3, f4, f5, f6, f7⟩ := KR.out.frz8
  clear G kr b1 HL
  cases b
  · obtain rfl : se = 220 := by rw [HSE.out, stepE, if_neg (of_decide_eq_false HB.out.symm)]
    go_wp2
    change bodyPost _ _ _ _ _ (Kit.set8 w1 (w.heap.size + 1) (.slice none 0 0) (.slice none 0 0) (.slice none 0 0) (.slice none 0 0) (.bool false) (.int .i64 0) (.slice none 0 0) (.slice none 0 0))
    have kf := set8_blk (.slice none 0 0) (.slice none 0 0) (.slice none 0 0) (.slice none 0 0) (.bool false) (.int .i64 0) (.slice none 0 0) (.slice none 0 0) KR.out
    have hL := L1.out.trans (set8_below (b := w.heap.size + 1) (.slice none 0 0) (.slice none 0 0) (.slice none 0 0) (.slice none 0 0) (.bool false) (.int .i64 0) (.slice none 0 0) (.slice none 0 0) (by omega))
    generalize Kit.set8 w1 (w.heap.size + 1) (.slice none 0 0) (.slice none 0 0) (.slice none 0 0) (.slice none 0 0) (.bool false) (.int .i64 0) (.slice none 0 0) (.slice none 0 0) = Wf at kf hL ⊢
    obtain ⟨⟨r0, r1, r2, r3, r4, r5, r6, r7⟩, _⟩ := kf.all8
    exact bodyPost_ret (v := .tuple #[.agg #[.slice none 0 0, .slice none 0 0, .slice none 0 0, .slice none 0 0, .bool false, .int .i64 0, .slice none 0 0, .slice none 0 0], .int .i64 0, .int .i64 220]) (by simp [results, Try.results21, go_sem, r0, r1, r2, r3, r4, r5, r6, r7]) rfl ⟨rfl, hL⟩
  · have hse : se = if n < 0 then 2 else 0 := by rw [HSE.out, stepE, if_pos (of_decide_eq_true HB.out.symm)]
    have hn : n < 0 := by
      by_cases c : n < 0
      · exact c
      · rw [if_neg c] at hse; exact absurd hse hno
    rw [if_pos hn] at hse
    subst hse
    have t1 : decide (n < 0) = true := decide_eq_true hn
    clear hn hno
    go_wp2
    change bodyPost _ _ _ _ _ (Kit.set8 w1 (w.heap.size + 1) (.slice none 0 0) (.slice none 0 0) (.slice none 0 0) (.slice none 0 0) (.bool false) (.int .i64 0) (.slice none 0 0) (.slice none 0 0))
    have kf := set8_blk (.slice none 0 0) (.slice none 0 0) (.slice none 0 0) (.slice none 0 0) (.bool false) (.int .i64 0) (.slice none 0 0) (.slice none 0 0) KR.out
    have hL := L1.out.trans (set8_below (b := w.heap.size + 1) (.slice none 0 0) (.slice none 0 0) (.slice none 0 0) (.slice none 0 0) (.bool false) (.int .i64 0) (.slice none 0 0) (.slice none 0 0) (by omega))
    generalize Kit.set8 w1 (w.heap.size + 1) (.slice none 0 0) (.slice none 0 0) (.slice none 0 0) (.slice none 0 0) (.bool false) (.int .i64 0) (.slice none 0 0) (.slice none 0 0) = Wf at kf hL ⊢
    obtain ⟨⟨r0, r1, r2, r3, r4, r5, r6, r7⟩, _⟩ := kf.all8
    exact bodyPost_ret (v := .tuple #[.agg #[.slice none 0 0, .slice none 0 0, .slice none 0 0, .slice none 0 0, .bool false, .int .i64 0, .slice none 0 0, .slice none 0 0], .int .i64 0, .int .i64 2]) (by simp [results, Try.results21, go_sem, r0, r1, r2, r3, r4, r5, r6, r7]) rfl ⟨rfl, hL⟩
/-- What End says. -/
def endE : Int := if okM t u A o k then (if 0 < leftM t u A o k then 221 else 0) else 220
set_option maxRecDepth 100000 in
set_option maxHeartbeats 4000000 in
theorem endM_any (hA : A.1.length ≤ 100000 ∧ A.2.length ≤ 100000) :
    Calls Try.prog 22 #[.agg (mgV x y z o k)] w fun e w' => ∃ z', e = .returned (.tuple #[.agg #[z'.av, z'.bv], .int .i64 (endE t u A o k)]) ∧ OwnD 53 w.heap.size w' z' (if endE t u A o k = 0 then A else ([], [])) ∧ Below w.heap.size w w' := by
  have hbz : ∀ w, (Instr.build 24 #[]).run Try.prog w = .ok (.agg #[.slice none 0 0, .slice none 0 0]) w := fun w => by kernel_rfl
  obtain ⟨b, hb⟩ : ∃ b, b = decide (okM t u A o k) := ⟨_, rfl⟩
  have HL := Lib.hid (fun W (hb' : Below w.heap.size w W) => left_any x y z t u A o k W (h1.later hb') (h2.later hb') (h3.later hb') hl b hb)
  have HC := Lib.hid (fun W (hb' : Below w.heap.size w W) => copiedM_any z A W (h3.later hb') (by omega))
  obtain ⟨lv, hlv⟩ : ∃ lv, lv = leftM t u A o k := ⟨_, rfl⟩
  rw [← hlv] at HL
  obtain ⟨se, hse⟩ : ∃ se, se = endE t u A o k := ⟨_, rfl⟩
  rw [← hse]
  have HSE := Lib.hid hse
  have HLV := Lib.hid hlv
  have HB := Lib.hid hb
  obtain ⟨ao, an, ac, bo, bn, bc⟩ := x
  obtain ⟨ao', an', ac', bo', bn', bc'⟩ := y
  obtain ⟨ao2, an2, ac2, bo2, bn2, bc2⟩ := z
  simp only [mgV, Ti.av, Ti.bv] at HL HC ⊢
  clear h1 h2 h3 hl hlv hse hb hA
  go_enter Try.func22, Try.ntmps22
  go_wp2_with fail
  have G := ((Gr.alloc w (.cells #[.slice ao an ac, .slice bo bn bc, .slice ao' an' ac', .slice bo' bn' bc', .bool o, .int .i64 k, .slice ao2 an2 ac2, .slice bo2 bn2 bc2] 26)).trans (Gr.alloc _ (.cells #[.slice none 0 0, .slice none 0 0] 24))).below
  have km := (Blk.new w #[.slice ao an ac, .slice bo bn bc, .slice ao' an' ac', .slice bo' bn' bc', .bool o, .int .i64 k, .slice ao2 an2 ac2, .slice bo2 bn2 bc2] 26).alloc (.cells #[.slice none 0 0, .slice none 0 0] 24)
  have kr := Blk.new (w.alloc (.cells #[.slice ao an ac, .slice bo bn bc, .slice ao' an' ac', .slice bo' bn' bc', .bool o, .int .i64 k, .slice ao2 an2 ac2, .slice bo2 bn2 bc2] 26)) #[.slice none 0 0, .slice none 0 0] 24
  simp only [World.size_alloc] at kr
  refine (HL.out _ G).mono ?_
  rintro e w1 ⟨rfl, b1⟩
  have KM := Lib.hid (km.later b1)
  have KR := Lib.hid (kr.later b1)
  have L1 := Lib.hid (below_later G b1)
  have m6 := KM.out.cell 6
  have m7 := KM.out.cell 7
  have lm := KM.out.lt
  have c0 := KR.out.cell 0
  have c1 := KR.out.cell 1
  have f0 := KR.out.frozen 0
  have f1 := KR.out.frozen 1
  have lr := KR.out.lt
  simp only [List.getElem?_toArray, List.getElem?_cons_zero, List.getElem?_cons_succ] at m6 m7 c0 c1
  clear G km kr b1 HL
  cases b
  · obtain rfl : se = 220 := by rw [HSE.out, endE, if_neg (of_decide_eq_false HB.out.symm)]
    go_wp2
    have kf := KR.out.setT (u := .slice none 0 0) (v := .slice none 0 0)
    have C0 := kf.cell 0
    have C1 := kf.cell 1
    simp only [List.getElem?_toArray, List.getElem?_cons_zero, List.getElem?_cons_succ] at C0 C1
    exact bodyPost_ret (v := .tuple #[.agg #[.slice none 0 0, .slice none 0 0], .int .i64 220]) (by simp [results, Try.results22, go_sem, C0, C1]) rfl ⟨⟨none, 0, 0, none, 0, 0⟩, rfl, OwnD.nil _ _ _, (L1.out.setCell (by simp) _).setCell (by simp) _⟩
  · have hse : se = if 0 < lv then 221 else 0 := by rw [HSE.out, endE, if_pos (of_decide_eq_true HB.out.symm), HLV.out]
    by_cases hp : 0 < lv
    · rw [if_pos hp] at hse
      subst hse
      have t1 : decide (0 < lv) = true := decide_eq_true hp
      clear hp
      go_wp2
      have kf := KR.out.setT (u := .slice none 0 0) (v := .slice none 0 0)
      have C0 := kf.cell 0
      have C1 := kf.cell 1
      simp only [List.getElem?_toArray, List.getElem?_cons_zero, List.getElem?_cons_succ] at C0 C1
      exact bodyPost_ret (v := .tuple #[.agg #[.slice none 0 0, .slice none 0 0], .int .i64 221]) (by simp [results, Try.results22, go_sem, C0, C1]) rfl ⟨⟨none, 0, 0, none, 0, 0⟩, rfl, OwnD.nil _ _ _, (L1.out.setCell (by simp) _).setCell (by simp) _⟩
    · rw [if_neg hp] at hse
      subst hse
      have t1 : decide (0 < lv) = false := decide_eq_false hp
      clear hp
      go_wp2_with fail
      refine (HC.out _ L1.out).mono ?_
      rintro e w2 ⟨⟨zo, zn, zc, zo', zn', zc'⟩, rfl, hz, b2⟩
      have KR := Lib.hid (KR.out.later b2)
      have HZ := Lib.hid (hz.mono L1.out.size)
      have L2 := Lib.hid (below_later L1.out b2)
      have c0 := KR.out.cell 0
      have c1 := KR.out.cell 1
      have f0 := KR.out.frozen 0
      have f1 := KR.out.frozen 1
      have lr := KR.out.lt
      simp only [List.getElem?_toArray, List.getElem?_cons_zero, List.getElem?_cons_succ] at c0 c1
      clear hz b2 L1 m6 m7 lm
      go_wp2
      have kf := KR.out.setT (u := .slice zo zn zc) (v := .slice zo' zn' zc')
      have C0 := kf.cell 0
      have C1 := kf.cell 1
      simp only [List.getElem?_toArray, List.getElem?_cons_zero, List.getElem?_cons_succ] at C0 C1
      exact bodyPost_ret (v := .tuple #[.agg #[.slice zo zn zc, .slice zo' zn' zc'], .int .i64 0]) (by simp [results, Try.results22, go_sem, C0, C1]) rfl ⟨⟨zo, zn, zc, zo', zn', zc'⟩, rfl, HZ.out.set2 KR.out (by decide) _ _, (L2.out.setCell (by simp) _).setCell (by simp) _⟩
end
end Go.Proofs.Ytlhigfphfbmbjaa


/- merge.Begin. -/
namespace Go.Proofs.Ytlhigfphfbmbjaa
open Go.RowKit Go.Proofs.Kit Go.Shelf
set_option maxRecDepth 100000 in
set_option maxHeartbeats 8000000 in
theorem beginM_any (x y : Ti) (t u : Tr) (o : Bool) (w : World) (h1 : TR w x t) (h2 : TR w y u) (hl : Sh t u) :
    Calls Try.prog 16 #[.agg #[x.av, x.bv], .agg #[y.av, y.bv], .bool o] w fun e w' => ((oneT t ∧ oneT u) ∧ ∃ x' y' z', e = .returned (.tuple #[.agg (mgV x' y' z' o 0), .int .i64 0]) ∧ OwnM 53 w.heap.size w' x' y' z' t u ([], [])) ∧ Below w.heap.size w w' ∨
      (¬ (oneT t ∧ oneT u) ∧ e = .returned (.tuple #[.agg mzV, .int .i64 210])) ∧ Below w.heap.size w w' := by
  have hbz : ∀ w, (Instr.build 26 #[]).run Try.prog w = .ok (.agg #[.slice none 0 0, .slice none 0 0, .slice none 0 0, .slice none 0 0, .bool false, .int .i64 0, .slice none 0 0, .slice none 0 0]) w := fun w => by kernel_rfl
  have hu4 := allP_len (m := 1000) ⟨hl.1.1, hl.1.2, hl.2.1, hl.2.2⟩
  have HC := Lib.hid (fun W b (hk : Blk W b #[x.av, x.bv, y.av, y.bv] 24) (hb : Below w.heap.size w W) => check11_any _ [t, u] W (segM2 hk (h1.later hb) (h2.later hb)) (fun r hr => by have := hl.1; have := hl.2; simp at hr; rcases hr with rfl | rfl <;> omega))
  have HP := Lib.hid (fun W (hb : Below w.heap.size w W) => pairsOf_any x y t u W (h1.later hb) (h2.later hb) hl)
  have HG := Lib.hid (fun W (hb : Below w.heap.size w W) (hg : oneT t ∧ oneT u) => goneOn_any x y noTi t u ([], []) o 0 0 W (h1.later hb) (h2.later hb) ⟨SegP.nil _, SegP.nil _⟩ hg.1 hg.2 hl (by simp) (Nat.zero_le _))
  have HBE := Lib.hid (fun W => begun_any x y o W)
  obtain ⟨q, hq⟩ : ∃ q, q = (allP t u).length := ⟨_, rfl⟩
  rw [← hq] at HP hu4
  obtain ⟨ao, an, ac, bo, bn, bc⟩ := x
  obtain ⟨ao', an', ac', bo', bn', bc'⟩ := y
  simp only [mgV, Ti.av, Ti.bv] at HC HP HG HBE ⊢
  clear h1 h2 hl hq
  go_enter Try.func16, Try.ntmps16
  go_wp2_with fail
  obtain ⟨W0, hW0⟩ : ∃ W0, W0 = ((w.alloc (.cells #[.slice ao an ac, .slice bo bn bc] 24)).alloc (.cells #[.slice ao' an' ac', .slice bo' bn' bc'] 24)).alloc (.cells mzV 26) := ⟨_, rfl⟩
  have G0 : Gr w W0 := by rw [hW0]; exact ((Gr.alloc _ _).trans (Gr.alloc _ _)).trans (Gr.alloc _ _)
  have ka : Blk W0 w.heap.size #[.slice ao an ac, .slice bo bn bc] 24 := by rw [hW0]; exact ((Blk.new _ _ _).alloc _).alloc _
  have kb : Blk W0 (w.heap.size + 1) #[.slice ao' an' ac', .slice bo' bn' bc'] 24 := by
    rw [hW0]
    have := (Blk.new (w.alloc (.cells #[.slice ao an ac, .slice bo bn bc] 24)) #[.slice ao' an' ac', .slice bo' bn' bc'] 24).alloc (.cells mzV 26)
    simpa using this
  have kr : Blk W0 (w.heap.size + 1 + 1) mzV 26 := by
    rw [hW0]
    have := Blk.new ((w.alloc (.cells #[.slice ao an ac, .slice bo bn bc] 24)).alloc (.cells #[.slice ao' an' ac', .slice bo' bn' bc'] 24)) mzV 26
    simpa using this
  have s0 : W0.heap.size = w.heap.size + 1 + 1 + 1 := by rw [hW0]; simp
  rw [← hW0]
  clear hW0
  have kc := Blk.new W0 #[.slice ao an ac, .slice bo bn bc, .slice ao' an' ac', .slice bo' bn' bc'] 24
  rw [s0] at kc
  have G1 := G0.trans (Gr.alloc W0 (.cells #[.slice ao an ac, .slice bo bn bc, .slice ao' an' ac', .slice bo' bn' bc'] 24))
  refine (HC.out _ _ kc G1.below).mono ?_
  rintro e w1 ⟨rfl, b1⟩
  have KA := Lib.hid ((ka.alloc (.cells #[.slice ao an ac, .slice bo bn bc, .slice ao' an' ac', .slice bo' bn' bc'] 24)).later b1)
  have KB := Lib.hid ((kb.alloc (.cells #[.slice ao an ac, .slice bo bn bc, .slice ao' an' ac', .slice bo' bn' bc'] 24)).later b1)
  have KR := Lib.hid ((kr.alloc (.cells #[.slice ao an ac, .slice bo bn bc, .slice ao' an' ac', .slice bo' bn' bc'] 24)).later b1)
  have L1 := Lib.hid (below_later G1.below b1)
  clear G0 ka kb kr kc G1 b1 HC
  by_cases hg : oneT t ∧ oneT u
  · have e1 : ckT [t, u] = 0 := ckT_yes (good2.2 hg)
    rw [e1]
    have HGD := Lib.hid hg
    have a0 := KA.out.cell 0
    have a1 := KA.out.cell 1
    have la := KA.out.lt
    have b0 := KB.out.cell 0
    have b1 := KB.out.cell 1
    have lb := KB.out.lt
    simp only [List.getElem?_toArray, List.getElem?_cons_zero, List.getElem?_cons_succ] at a0 a1 b0 b1
    clear e1 hg
    go_wp2_with fail
    refine (HP.out _ L1.out).mono ?_
    rintro e w2 ⟨rfl, b2⟩
    have KA := Lib.hid (KA.out.later b2)
    have KB := Lib.hid (KB.out.later b2)
    have KR := Lib.hid (KR.out.later b2)
    have L2 := Lib.hid (below_later L1.out b2)
    have a0 := KA.out.cell 0
    have a1 := KA.out.cell 1
    have la := KA.out.lt
    have b0 := KB.out.cell 0
    have b1 := KB.out.cell 1
    have lb := KB.out.lt
    simp only [List.getElem?_toArray, List.getElem?_cons_zero, List.getElem?_cons_succ] at a0 a1 b0 b1
    have hq1 : decide (1048576 < q) = false := decide_eq_false (by omega)
    have hq2 : decide ((1048576 : Int) < (q : Int)) = false := decide_eq_false (by omega)
    clear b2 L1 HP
    go_wp2_with fail
    refine (HBE.out _).mono ?_
    rintro e w3 ⟨rfl, b3⟩
    have KR := Lib.hid (KR.out.later b3)
    have L3 := Lib.hid (below_later L2.out b3)
    clear b3 a0 a1 la b0 b1 lb KA KB L2 HBE
    go_wp2_with fail
    refine (HG.out _ L3.out HGD.out).mono ?_
    rintro e w4 ⟨⟨xo, xn, xc, xo', xn', xc'⟩, ⟨yo, yn, yc, yo', yn', yc'⟩, ⟨zo, zn, zc, zo', zn', zc'⟩, rfl, hx, hy, hz, b4⟩
    rw [accT_zero, Nat.zero_add, outT_zero] at hz
    have KR := Lib.hid (KR.out.later b4)
    have HM := Lib.hid ((⟨hx, hy, hz⟩ : OwnM _ _ _ _ _ _ _ _ _).mono L3.out.size)
    have L4 := Lib.hid (below_later L3.out b4)
    obtain ⟨⟨m0, m1, m2, m3, m4, m5, m6, m7⟩, lm⟩ := KR.out.all8
    obtain ⟨f0, f1, f2, f3, f4, f5, f6, f7⟩ := KR.out.frz8
    clear hx hy hz b4 L3 HG
    go_wp2
    change bodyPost _ _ _ _ _ (Kit.set8 w4 (w.heap.size + 1 + 1) (.slice xo xn xc) (.slice xo' xn' xc') (.slice yo yn yc) (.slice yo' yn' yc') (.bool o) (.int .i64 0) (.slice zo zn zc) (.slice zo' zn' zc'))
    have kf := set8_blk (.slice xo xn xc) (.slice xo' xn' xc') (.slice yo yn yc) (.slice yo' yn' yc') (.bool o) (.int .i64 0) (.slice zo zn zc) (.slice zo' zn' zc') KR.out
    have hL := L4.out.trans (set8_below (b := w.heap.size + 1 + 1) (.slice xo xn xc) (.slice xo' xn' xc') (.slice yo yn yc) (.slice yo' yn' yc') (.bool o) (.int .i64 0) (.slice zo zn zc) (.slice zo' zn' zc') (by omega))
    have hM := HM.out.set8 KR.out (by decide) (.slice xo xn xc) (.slice xo' xn' xc') (.slice yo yn yc) (.slice yo' yn' yc') (.bool o) (.int .i64 0) (.slice zo zn zc) (.slice zo' zn' zc')
    generalize Kit.set8 w4 (w.heap.size + 1 + 1) (.slice xo xn xc) (.slice xo' xn' xc') (.slice yo yn yc) (.slice yo' yn' yc') (.bool o) (.int .i64 0) (.slice zo zn zc) (.slice zo' zn' zc') = Wf at kf hL hM ⊢
    obtain ⟨⟨r0, r1, r2, r3, r4, r5, r6, r7⟩, _⟩ := kf.all8
    exact bodyPost_ret (v := .tuple #[.agg #[.slice xo xn xc, .slice xo' xn' xc', .slice yo yn yc, .slice yo' yn' yc', .bool o, .int .i64 0, .slice zo zn zc, .slice zo' zn' zc'], .int .i64 0]) (by simp [results, Try.results16, go_sem, r0, r1, r2, r3, r4, r5, r6, r7]) rfl (.inl ⟨⟨HGD.out, ⟨xo, xn, xc, xo', xn', xc'⟩, ⟨yo, yn, yc, yo', yn', yc'⟩, ⟨zo, zn, zc, zo', zn', zc'⟩, rfl, hM⟩, hL⟩)
  · have e1 : ckT [t, u] = 210 := ckT_no (fun c => hg (good2.1 c))
    rw [e1]
    obtain ⟨⟨m0, m1, m2, m3, m4, m5, m6, m7⟩, lm⟩ := KR.out.all8
    obtain ⟨f0, f1, f2, f3, f4, f5, f6, f7⟩ := KR.out.frz8
    have HNG := Lib.hid hg
    clear e1 hg
    go_wp2
    change bodyPost _ _ _ _ _ (Kit.set8 w1 (w.heap.size + 1 + 1) (.slice none 0 0) (.slice none 0 0) (.slice none 0 0) (.slice none 0 0) (.bool false) (.int .i64 0) (.slice none 0 0) (.slice none 0 0))
    have kf := set8_blk (.slice none 0 0) (.slice none 0 0) (.slice none 0 0) (.slice none 0 0) (.bool false) (.int .i64 0) (.slice none 0 0) (.slice none 0 0) KR.out
    have hL := L1.out.trans (set8_below (b := w.heap.size + 1 + 1) (.slice none 0 0) (.slice none 0 0) (.slice none 0 0) (.slice none 0 0) (.bool false) (.int .i64 0) (.slice none 0 0) (.slice none 0 0) (by omega))
    generalize Kit.set8 w1 (w.heap.size + 1 + 1) (.slice none 0 0) (.slice none 0 0) (.slice none 0 0) (.slice none 0 0) (.bool false) (.int .i64 0) (.slice none 0 0) (.slice none 0 0) = Wf at kf hL ⊢
    obtain ⟨⟨r0, r1, r2, r3, r4, r5, r6, r7⟩, _⟩ := kf.all8
    exact bodyPost_ret (v := .tuple #[.agg #[.slice none 0 0, .slice none 0 0, .slice none 0 0, .slice none 0 0, .bool false, .int .i64 0, .slice none 0 0, .slice none 0 0], .int .i64 210]) (by simp [results, Try.results16, go_sem, r0, r1, r2, r3, r4, r5, r6, r7]) rfl (.inr ⟨⟨HNG.out, rfl⟩, hL⟩)
end Go.Proofs.Ytlhigfphfbmbjaa

