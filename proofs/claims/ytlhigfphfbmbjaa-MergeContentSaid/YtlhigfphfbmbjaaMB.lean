import Derived.Test.YtlhigfphfbmbjaaW12
import Derived.StillTailTactics
import Derived.Test.YtlhigfphfbmbjaaM2
import Derived.Test.YtlhigfphfbmbjaaW14
import Derived.Test.YtlhigfphfbmbjaaMA
import Derived.Maps.OwnIn
/- merge.withRoom, cut, copied: a tier's rows laid anew. -/
namespace Go.Proofs.Kit
open Go.RowKit
theorem flat_drop (l : List Pr) (k : Nat) : flat (l.drop k) = (flat l).drop (k * 2) := by
  by_cases hk : k ≤ l.length
  · have h := flat_append (l.take k) (l.drop k)
    rw [List.take_append_drop] at h
    rw [h, List.drop_left' (by rw [flat_length]; simp; omega)]
  · rw [List.drop_of_length_le (by omega), List.drop_of_length_le (by rw [flat_length]; omega)]
    rfl
/-- copy(out, l), out a row of the call's own that is as long as l, or longer. -/
theorem wpList_copyQ {P : Program} {w : World} {ops : Array Oper} {rest : List Oper} {o : Oper} {a : Act} {Q : Exit → Act → World → Prop} (hgd : o.guard = none) (d s : Operand) (dT sT : TypeId)
    (ho : o.op = .call { callee := .builtin .copy, args := #[d, s], argTypes := #[dT, sT] }) (elem : TypeId) (hu : P.underlying dT = some (.slice elem)) (hsz : (P.info? elem).map (·.size) = some 2)
    (B : Nat) (v : Value) (l0 : List Pr) (hown : OwnP elem B w v l0) (hd : a.eval d = v) (vx : Value) (l : List Pr) (hseg : SegP w vx l) (hs : a.eval s = vx) (hlen : l.length ≤ l0.length)
    (h : ∀ w', OwnP elem B w' v (l ++ l0.drop l.length) → Below B w w' → wpList P ops Q rest (a.put o.dst (.int .i64 l.length)) w') : wpList P ops Q (o :: rest) a w := by
  refine wpList_plain hgd fun K hK => ?_
  have hl48 := hown.1
  obtain ⟨i, hi, hi2⟩ : ∃ i, P.info? elem = some i ∧ i.size = 2 := by
    cases hq : P.info? elem with
    | none => simp [hq] at hsz
    | some i => exact ⟨i, rfl, by simpa [hq] using hsz⟩
  obtain ⟨so, sc, rfl, hsl, hsc, hsh⟩ := hseg.shape
  by_cases h0 : l = []
  · subst h0
    obtain ⟨vo, vc, rfl⟩ := hown.shape
    have hrun : (Builtin.copy_ #[dT, sT] o.type #[.slice vo l0.length vc, .slice so 0 sc]).run P w = .ok (goInt 0) w := by
      cases so <;> cases vo <;> simp [Builtin.copy_, run_underlying hu, Builtin.lenOf, Builtin.firstCells, sizeOf, typeInfo, hi, storeCells, loadCells, loadCellsFrom]
    unfold Oper.wp
    have hd' : a.eval d = .slice vo l0.length vc := hd
    have hs' : a.eval s = .slice so 0 sc := hs
    simp [execOp, ho, resolve, invoke, builtin, hd', hs', hrun, Result.andThen]
    exact hK _ _ (h w (by simpa using hown) (Below.refl _ _))
  · have hpos : 0 < l.length := List.length_pos_iff.2 h0
    obtain ⟨b, f, rfl, hbl, hcells⟩ := hsh.resolve_left h0
    obtain ⟨g, cap, cur, rfl, h1, h2, h3, hg, hb, h4⟩ := hown.blk (by omega)
    have hl := run_loadCells_list (P := P) w ⟨b, f, none⟩ (flat l) (SegP.src hcells)
    rw [flat_length] at hl
    have hst := run_storeCells_at P g 0 elem (flat l) 0 cur w hb (by rw [flat_length]; omega) (flat_one l)
    simp only [Nat.zero_add] at hst
    have hmin : l.length.min l0.length = l.length := Nat.min_eq_left hlen
    have hrun : (Builtin.copy_ #[dT, sT] o.type #[.slice (some ⟨g, 0, none⟩) l0.length cap, .slice (some ⟨b, f, none⟩) l.length sc]).run P w =
        .ok (goInt l.length) (w.setRow g (cur.toList.take 0 ++ flat l ++ cur.toList.drop (flat l).length).toArray) := by
      simp [Builtin.copy_, run_underlying hu, Builtin.lenOf, Builtin.firstCells, sizeOf, typeInfo, hi, hi2, hmin, hl, hst]
    unfold Oper.wp
    simp [execOp, ho, resolve, invoke, builtin, hd, hs, hrun, Result.andThen]
    refine hK _ _ (h _ ?_ (below_setRow (Below.refl _ _) hg _))
    have hsize : (flat l ++ cur.toList.drop (flat l).length).toArray.size = cap * 2 := by
      simp [flat_length]; omega
    have hlm : (l ++ l0.drop l.length).length = l0.length := by simp; omega
    have htk : (flat l ++ cur.toList.drop (flat l).length).toArray.toList.take ((l ++ l0.drop l.length).length * 2) = flat (l ++ l0.drop l.length) := by
      rw [hlm, flat_append, flat_drop, ← h4]
      simp only [List.take_append, flat_length]
      rw [List.take_of_length_le (by rw [flat_length]; omega), List.drop_take]
    have := OwnP.of_blk (t := elem) (l := l ++ l0.drop l.length) hg (blk_setRow hb (flat l ++ cur.toList.drop (flat l).length).toArray) (cap := cap) (by omega) h2 (by omega) hsize htk
    rw [hlm] at this
    exact this
/-- The beginning of a row of the call's own. -/
theorem OwnP.upto {t : TypeId} {B : Nat} {w : World} {b n c : Nat} {l m : List Pr} (h : OwnP t B w (.slice (some ⟨b, 0, none⟩) n c) (l ++ m)) : OwnP t B w (.slice (some ⟨b, 0, none⟩) l.length c) l := by
  have hl := h.1
  rcases h.2.2 with ⟨h1, _⟩ | ⟨g, cap, cur, h1, h2, h3, h4, h5, h6, h7⟩
  · cases h1
  · injection h1 with e1 e2 e3
    injection e1 with e1
    injection e1 with e1 _ _
    subst e1 e3
    have hle : l.length ≤ (l ++ m).length := by simp
    refine OwnP.of_blk h2 h3 (by omega) (by unfold maxLen at h5; omega) (by omega) h6 ?_
    rw [flat_append] at h7
    have h8 : (l ++ m).length * 2 = l.length * 2 + m.length * 2 := by simp [Nat.add_mul]
    have h9 := congrArg (fun x => x.take (l.length * 2)) h7
    simp only [List.take_take] at h9
    rw [h8, Nat.min_eq_left (by omega), List.take_left' (by rw [flat_length])] at h9
    exact h9
theorem OwnP.apart2 {t t' : TypeId} {B : Nat} {w w' : World} {v v' : Value} {l l' : List Pr} (h : OwnP t B w v l) (h' : OwnP t' w.heap.size w' v' l') : ∀ k, v.ownBlock = some k → v'.ownBlock ≠ some k := fun k a b => by
  have h1 := (h.lt k a).2
  have h2 := (h'.lt k b).1
  omega
/-- A row of the call's own, cut to its length. -/
def OwnC (t : TypeId) (B : Nat) (w : World) (v : Value) (l : List Pr) : Prop := ∃ o c, v = .slice o l.length l.length ∧ OwnP t B w (.slice o l.length c) l ∧ l.length ≤ c
theorem OwnC.later {t : TypeId} {B : Nat} {w w' : World} {v : Value} {l : List Pr} (h : OwnC t B w v l) (hb : Below w.heap.size w w') : OwnC t B w' v l := by
  obtain ⟨o, c, h1, h2, h3⟩ := h
  exact ⟨o, c, h1, h2.later hb, h3⟩
theorem OwnC.mono {t : TypeId} {B B' : Nat} {w : World} {v : Value} {l : List Pr} (h : OwnC t B w v l) (hB : B' ≤ B) : OwnC t B' w v l := by
  obtain ⟨o, c, h1, h2, h3⟩ := h
  exact ⟨o, c, h1, h2.mono hB, h3⟩
theorem OwnC.seg {t : TypeId} {B : Nat} {w : World} {v : Value} {l : List Pr} (h : OwnC t B w v l) : SegP w v l := by
  obtain ⟨o, c, rfl, h2, h3⟩ := h
  have hs := h2.seg
  refine ⟨hs.1, ?_⟩
  rcases hs.2 with ⟨h4, h5⟩ | ⟨b, f, cap, h4, h5, h6, h7, h8⟩
  · injection h4 with e1 e2 e3
    subst h5 e1
    exact .inl ⟨rfl, rfl⟩
  · injection h4 with e1 e2 e3
    subst e1
    exact .inr ⟨b, f, l.length, rfl, Nat.le_refl _, by omega, h7, h8⟩
theorem OwnP.cut {t : TypeId} {B : Nat} {w : World} {o : Option Addr} {n c : Nat} {l : List Pr} (h : OwnP t B w (.slice o n c) l) : OwnC t B w (.slice o n n) l := by
  obtain ⟨h1, h2, _⟩ := h.seg.len_n
  obtain rfl : l.length = n := h1
  exact ⟨o, c, rfl, h, h2⟩
/-- A tier's rows, the call's own, cut. -/
def OwnD (tp : TypeId) (B : Nat) (w : World) (x : Ti) (t : Tr) : Prop := OwnC tp B w (.slice x.ao x.an x.ac) t.1 ∧ OwnC tp B w (.slice x.bo x.bn x.bc) t.2
theorem OwnD.later {tp : TypeId} {B : Nat} {w w' : World} {x : Ti} {t : Tr} (h : OwnD tp B w x t) (hb : Below w.heap.size w w') : OwnD tp B w' x t := ⟨h.1.later hb, h.2.later hb⟩
theorem OwnD.mono {tp : TypeId} {B B' : Nat} {w : World} {x : Ti} {t : Tr} (h : OwnD tp B w x t) (hB : B' ≤ B) : OwnD tp B' w x t := ⟨h.1.mono hB, h.2.mono hB⟩
theorem OwnD.tr {tp : TypeId} {B : Nat} {w : World} {x : Ti} {t : Tr} (h : OwnD tp B w x t) : TR w x t := ⟨h.1.seg, h.2.seg⟩
theorem OwnD.nil (tp : TypeId) (B : Nat) (w : World) : OwnD tp B w ⟨none, 0, 0, none, 0, 0⟩ ([], []) := ⟨⟨none, 0, rfl, OwnP.nil _ _ _, Nat.le_refl _⟩, ⟨none, 0, rfl, OwnP.nil _ _ _, Nat.le_refl _⟩⟩
/-- What lies while a tier is laid anew with room. -/
structure RoW (tt ti : TypeId) (w : World) (v1 v2 : Value) (more : Int) (W : World) : Prop where
  k0 : Blk W w.heap.size #[v1, v2] tt
  k1 : Blk W (w.heap.size + 1) #[.int .i64 more] ti
  k2 : Blk W (w.heap.size + 2) #[.slice none 0 0, .slice none 0 0] tt
  low : Below w.heap.size w W
theorem RoW.later {tt ti : TypeId} {w W W' : World} {v1 v2 : Value} {more : Int} (h : RoW tt ti w v1 v2 more W) (hb : Below W.heap.size W W') : RoW tt ti w v1 v2 more W' := ⟨h.k0.later hb, h.k1.later hb, h.k2.later hb, below_later h.low hb⟩
theorem RoW.drew {tt ti : TypeId} {w W : World} {v1 v2 : Value} {more : Int} (h : RoW tt ti w v1 v2 more W) : RoW tt ti w v1 v2 more W.drew := h.later (Below.refl _ _).drew
theorem RoW.all {tt ti : TypeId} {w W : World} {v1 v2 : Value} {more : Int} (h : RoW tt ti w v1 v2 more W) : W.cell? ⟨w.heap.size, 0, none⟩ = some v1 ∧ W.cell? ⟨w.heap.size, 1, none⟩ = some v2 ∧ W.cell? ⟨w.heap.size + 2, 0, none⟩ = some (.slice none 0 0) ∧ W.cell? ⟨w.heap.size + 2, 1, none⟩ = some (.slice none 0 0) ∧
    W.frozen? ⟨w.heap.size + 2, 0, none⟩ = false ∧ W.frozen? ⟨w.heap.size + 2, 1, none⟩ = false ∧ w.heap.size < W.heap.size ∧ w.heap.size + 2 < W.heap.size := ⟨h.k0.cell 0, h.k0.cell 1, h.k2.cell 0, h.k2.cell 1, h.k2.frozen 0, h.k2.frozen 1, h.k0.lt, h.k2.lt⟩
end Go.Proofs.Kit
namespace Go.Proofs.Ytlhigfphfbmbjaa
open Go.RowKit Go.Proofs.Kit Go.Shelf
set_option maxRecDepth 100000 in
set_option maxHeartbeats 1000000 in
theorem room_any (v : Value) (l : List Pr) (bm more : Nat) (w : World) (hs : SegP w v l) (hb : Blk w bm #[.int .i64 (more : Int)] 3) (hl : l.length + more ≤ 100000000) :
    Calls Try.prog 101 #[v, .pointer (some ⟨bm, 0, none⟩)] w fun e w' => ∃ v', e = .returned v' ∧ OwnP 53 w.heap.size w' v' l ∧ Below w.heap.size w w' := by
  obtain ⟨i0, hi, hz0, hz1, hz2⟩ := infoP
  obtain ⟨o, c, rfl, hc, hm, _⟩ := hs.shape
  have HS := Lib.hid hs
  obtain ⟨n, hn⟩ : ∃ n, n = l.length := ⟨_, rfl⟩
  rw [← hn] at HS hl ⊢
  have HN := Lib.hid hn
  have c0 := hb.cell 0
  have lb := hb.lt
  simp only [List.getElem?_toArray, List.getElem?_cons_zero] at c0
  clear hn hs hc hb
  go_enter Try.func101, Try.ntmps101
  go_wp2_with (refine wpList_make_full _ rfl _ _ _ rfl w.heap.size 53 i0 (.agg #[.int .u64 0, .int .u64 0]) 2 Try.underlying22 hi hz0 hz1 .i64 .i64 _ _ (n + more) rfl rfl rfl rfl ?ma ?mb ?mc ?_)
  case ma => rw [hz2]; omega
  case mb => unfold maxLen; omega
  case mc => exact Nat.le_refl _
  intro w1 ho1 hg1
  have hb1 : Below w.heap.size w w1 := (Below.refl _ _).grown hg1 (Nat.le_refl _) (fun _ h => by cases h)
  have hO : OwnP 53 w.heap.size w1 (.slice (some ⟨w.heap.size, 0, none⟩) (n + more) (n + more)) (zeros (n + more)) := by
    have e : (zeros (n + more)).length = n + more := by simp [zeros]
    refine ⟨by rw [e]; omega, ?_⟩
    rw [e, ← madeCells_zeros]
    exact ho1
  have HO := Lib.hid hO
  have HS1 := Lib.hid (HS.out.later hb1)
  clear ho1 hO hg1
  go_wp2_with (with_reducible refine wpList_copyQ rfl _ _ 22 22 rfl 53 Try.underlying22 sizeP w.heap.size _ _ HO.out rfl _ _ HS1.out rfl ?ca ?_)
  case ca => rw [← HN.out]; simp [zeros]
  rw [← HN.out]
  intro w2 hO2 hb2
  have hU := hO2.upto
  rw [← HN.out] at hU
  have HU := Lib.hid hU
  have HB2 := Lib.hid (hb1.trans hb2)
  clear hO2 hb2 hU
  go_wp2
  go_ret
  exact ⟨_, rfl, HU.out, HB2.out⟩
set_option maxRecDepth 100000 in
set_option maxHeartbeats 4000000 in
theorem cutM_any (x : Ti) (w : World) (h1 : x.an ≤ x.ac) (h2 : x.bn ≤ x.bc) :
    Calls Try.prog 84 #[.agg #[x.av, x.bv]] w fun e w' => e = .returned (.agg #[.slice x.ao x.an x.an, .slice x.bo x.bn x.bn]) ∧ Below w.heap.size w w' := by
  have hmix := mixed
  obtain ⟨ao, an, ac, bo, bn, bc⟩ := x
  simp only [Ti.av, Ti.bv] at h1 h2 ⊢
  go_enter Try.func84, Try.ntmps84
  go_wp2_with fail
  obtain ⟨W1, hW1⟩ : ∃ W1, W1 = (w.alloc (.cells #[.slice ao an ac, .slice bo bn bc] 24)).alloc (.cells #[.slice none 0 0, .slice none 0 0] 24) := ⟨_, rfl⟩
  have G1 : Gr w W1 := by rw [hW1]; exact (Gr.alloc _ _).trans (Gr.alloc _ _)
  have k0 : Blk W1 w.heap.size #[.slice ao an ac, .slice bo bn bc] 24 := by rw [hW1]; exact (Blk.new _ _ _).alloc _
  have k1 : Blk W1 (w.heap.size + 1) #[.slice none 0 0, .slice none 0 0] 24 := by
    rw [hW1]
    have := Blk.new (w.alloc (.cells #[.slice ao an ac, .slice bo bn bc] 24)) #[.slice none 0 0, .slice none 0 0] 24
    simpa using this
  rw [← hW1]
  clear hW1
  have e0 := k0.cell 0
  have e1 := k0.cell 1
  have l0 := k0.lt
  have c0 := k1.cell 0
  have c1 := k1.cell 1
  have f0 := k1.frozen 0
  have f1 := k1.frozen 1
  have l1 := k1.lt
  simp only [List.getElem?_toArray, List.getElem?_cons_zero, List.getElem?_cons_succ] at e0 e1 c0 c1
  have HK1 := Lib.hid k1
  have HG := Lib.hid G1.below
  clear k0 k1 G1
  go_still_tail 19, (by kernel_rfl)
  change wpList _ _ _ _ _ W1.drew
  obtain ⟨W2, hW2⟩ : ∃ W2, W2 = W1.drew := ⟨_, rfl⟩
  have HK2 := Lib.hid (show Blk W2 (w.heap.size + 1) #[.slice none 0 0, .slice none 0 0] 24 by rw [hW2]; exact HK1.out.drew)
  have HG2 := Lib.hid (show Below w.heap.size w W2 by rw [hW2]; exact HG.out.drew)
  rw [← hW2]
  have c0 := HK2.out.cell 0
  have c1 := HK2.out.cell 1
  have f0 := HK2.out.frozen 0
  have f1 := HK2.out.frozen 1
  have l1 := HK2.out.lt
  simp only [List.getElem?_toArray, List.getElem?_cons_zero, List.getElem?_cons_succ] at c0 c1
  clear hW2
  go_wp2
  have kf := HK2.out.setT (u := .slice ao an an) (v := .slice bo bn bn)
  have C0 := kf.cell 0
  have C1 := kf.cell 1
  simp only [List.getElem?_toArray, List.getElem?_cons_zero, List.getElem?_cons_succ] at C0 C1
  refine bodyPost_ret (v := .agg #[.slice ao an an, .slice bo bn bn]) (by simp [results, Try.results84, go_sem, C0, C1]) rfl ⟨rfl, (HG2.out.setCell (by simp) _).setCell (by simp) _⟩
set_option maxRecDepth 100000 in
set_option maxHeartbeats 4000000 in
theorem withRoom_any (x : Ti) (t : Tr) (more : Nat) (w : World) (h : TR w x t) (hl : t.1.length + more ≤ 100000000 ∧ t.2.length + more ≤ 100000000) :
    Calls Try.prog 85 #[.agg #[x.av, x.bv], .int .i64 (more : Int)] w fun e w' => ∃ y : Ti, e = .returned (.agg #[y.av, y.bv]) ∧ OwnQ 53 w.heap.size w' y t ∧ Below w.heap.size w w' ∧ ∀ k, y.av.ownBlock = some k → y.bv.ownBlock ≠ some k := by
  have hmf : ∀ (fn : Fn) (first cap : Array Value) (w : World), (Instr.makeFunc fn first cap).run Try.prog w = .ok (.func fn first cap) w := fun _ _ _ _ => rfl
  have hmix := mixed
  obtain ⟨ao, an, ac, bo, bn, bc⟩ := x
  have HFA := Lib.hid (fun W b (hb : Below w.heap.size w W) (hk : Blk W b #[.int .i64 (more : Int)] 3) => room_any _ t.1 b more W (h.a.later hb) hk hl.1)
  have HFB := Lib.hid (fun W b (hb : Below w.heap.size w W) (hk : Blk W b #[.int .i64 (more : Int)] 3) => room_any _ t.2 b more W (h.b.later hb) hk hl.2)
  simp only [Ti.av, Ti.bv] at HFA HFB ⊢
  clear h hl
  go_enter Try.func85, Try.ntmps85
  go_wp2_with fail
  obtain ⟨W1, hW1⟩ : ∃ W1, W1 = ((w.alloc (.cells #[.slice ao an ac, .slice bo bn bc] 24)).alloc (.cells #[.int .i64 (more : Int)] 3)).alloc (.cells #[.slice none 0 0, .slice none 0 0] 24) := ⟨_, rfl⟩
  have hws : RoW 24 3 w (.slice ao an ac) (.slice bo bn bc) (more : Int) W1 := by
    rw [hW1]
    refine ⟨((Blk.new _ _ _).alloc _).alloc _, ?_, ?_, (((Gr.alloc _ _).trans (Gr.alloc _ _)).trans (Gr.alloc _ _)).below⟩
    · have := (Blk.new (w.alloc (.cells #[.slice ao an ac, .slice bo bn bc] 24)) #[.int .i64 (more : Int)] 3).alloc (.cells #[.slice none 0 0, .slice none 0 0] 24)
      simpa using this
    · have := Blk.new ((w.alloc (.cells #[.slice ao an ac, .slice bo bn bc] 24)).alloc (.cells #[.int .i64 (more : Int)] 3)) #[.slice none 0 0, .slice none 0 0] 24
      simpa using this
  rw [← hW1]
  clear hW1
  obtain ⟨e0, e1, c0, c1, f0, f1, l0, l1⟩ := hws.all
  go_region_law (first
    | (go_simp; go_at_call 101; (with_reducible refine (HFA.out _ _ hws.drew.low hws.drew.k1).mono ?_); rintro e wS ⟨vA, rfl, hA, bS⟩; obtain ⟨oA, nA, xA, rfl⟩ := hA.any; have hA := hA.mono (B' := w.heap.size) hws.drew.low.size; have hws := hws.drew.later bS; obtain ⟨e0, e1, c0, c1, f0, f1, l0, l1⟩ := hws.all; clear bS)
    | (go_simp; go_at_call 101; (with_reducible refine (HFB.out _ _ hws.low hws.k1).mono ?_); rintro e wT ⟨vB, rfl, hB, bS⟩; obtain ⟨oB, nB, xB, rfl⟩ := hB.any; have hD := hA.apart2 hB; have hB := hB.mono (B' := w.heap.size) hws.low.size; have hA := hA.later bS; have hws := hws.later bS; obtain ⟨e0, e1, c0, c1, f0, f1, l0, l1⟩ := hws.all; clear bS))
  all_goals
    go_wp2
    have kf := hws.k2.setT (u := .slice oA nA xA) (v := .slice oB nB xB)
    have C0 := kf.cell 0
    have C1 := kf.cell 1
    simp only [List.getElem?_toArray, List.getElem?_cons_zero, List.getElem?_cons_succ] at C0 C1
    refine bodyPost_ret (v := .agg #[.slice oA nA xA, .slice oB nB xB]) (by simp [results, Try.results85, go_sem, C0, C1]) rfl ⟨⟨oA, nA, xA, oB, nB, xB⟩, rfl, ⟨?_, ?_⟩, (hws.low.setCell (by simp; omega) _).setCell (by simp; omega) _, hD⟩
    · exact hA.otherB2 hws.k2 (by decide) 0 1 (.slice oA nA xA) (.slice oB nB xB)
    · exact hB.otherB2 hws.k2 (by decide) 0 1 (.slice oA nA xA) (.slice oB nB xB)
set_option maxRecDepth 100000 in
set_option maxHeartbeats 2000000 in
theorem copiedM_any (x : Ti) (t : Tr) (w : World) (h : TR w x t) (hl : t.1.length ≤ 100000000 ∧ t.2.length ≤ 100000000) :
    Calls Try.prog 59 #[.agg #[x.av, x.bv]] w fun e w' => ∃ y : Ti, e = .returned (.agg #[y.av, y.bv]) ∧ OwnD 53 w.heap.size w' y t ∧ Below w.heap.size w w' := by
  obtain ⟨ao, an, ac, bo, bn, bc⟩ := x
  have HW := Lib.hid (fun W (hb : Below w.heap.size w W) => withRoom_any ⟨ao, an, ac, bo, bn, bc⟩ t 0 W (h.later hb) (by omega))
  simp only [Ti.av, Ti.bv] at HW ⊢
  clear h hl
  go_enter Try.func59, Try.ntmps59
  go_wp2_with fail
  obtain ⟨W1, hW1⟩ : ∃ W1, W1 = (w.alloc (.cells #[.slice ao an ac, .slice bo bn bc] 24)).alloc (.cells #[.slice none 0 0, .slice none 0 0] 24) := ⟨_, rfl⟩
  have G1 : Gr w W1 := by rw [hW1]; exact (Gr.alloc _ _).trans (Gr.alloc _ _)
  have k1 : Blk W1 (w.heap.size + 1) #[.slice none 0 0, .slice none 0 0] 24 := by
    rw [hW1]
    have := Blk.new (w.alloc (.cells #[.slice ao an ac, .slice bo bn bc] 24)) #[.slice none 0 0, .slice none 0 0] 24
    simpa using this
  rw [← hW1]
  clear hW1
  refine (HW.out _ G1.below).mono ?_
  rintro e w2 ⟨⟨ao', an', ac', bo', bn', bc'⟩, rfl, q2, b2, _⟩
  have hn1 := q2.1.seg.len_n
  have hn2 := q2.2.seg.len_n
  simp only at hn1 hn2
  have K2 := Lib.hid (k1.later b2)
  have L2 := Lib.hid (below_later G1.below b2)
  have Q2 := Lib.hid (q2.mono (B' := w.heap.size) G1.below.size)
  have HC := Lib.hid (cutM_any ⟨ao', an', ac', bo', bn', bc'⟩ w2 hn1.2.1 hn2.2.1)
  simp only [Ti.av, Ti.bv] at HC ⊢
  clear G1 k1 b2 q2 hn1 hn2 HW
  go_wp2_with fail
  refine HC.out.mono ?_
  rintro e w3 ⟨rfl, b3⟩
  have K3 := Lib.hid (K2.out.later b3)
  have L3 := Lib.hid (below_later L2.out b3)
  have Q3 := Lib.hid (Q2.out.later b3)
  have c0 := K3.out.cell 0
  have c1 := K3.out.cell 1
  have f0 := K3.out.frozen 0
  have f1 := K3.out.frozen 1
  have l3 := K3.out.lt
  simp only [List.getElem?_toArray, List.getElem?_cons_zero, List.getElem?_cons_succ] at c0 c1
  clear b3 K2 L2 Q2 HC
  go_wp2
  have kf := K3.out.setT (u := .slice ao' an' an') (v := .slice bo' bn' bn')
  have C0 := kf.cell 0
  have C1 := kf.cell 1
  simp only [List.getElem?_toArray, List.getElem?_cons_zero, List.getElem?_cons_succ] at C0 C1
  refine bodyPost_ret (v := .agg #[.slice ao' an' an', .slice bo' bn' bn']) (by simp [results, Try.results59, go_sem, C0, C1]) rfl ⟨⟨ao', an', an', bo', bn', bn'⟩, rfl, ⟨?_, ?_⟩, (L3.out.setCell (by simp) _).setCell (by simp) _⟩
  · exact (Q3.out.1.otherB2 K3.out (by decide) 0 1 (.slice ao' an' an') (.slice bo' bn' bn')).cut
  · exact (Q3.out.2.otherB2 K3.out (by decide) 0 1 (.slice ao' an' an') (.slice bo' bn' bn')).cut
end Go.Proofs.Ytlhigfphfbmbjaa


/- merge.pairsOf: how many pairs two tiers have. -/
namespace Go.Proofs.Ytlhigfphfbmbjaa
open Go.RowKit Go.Proofs.Kit Go.Shelf
attribute [local go_sem] Oper.semAt_some
/-- The rows as inOrder reads them. -/
theorem KR.four {X : World} {bx br : Nat} {x y : Ti} {t u : Tr} (hx : Blk X bx #[.slice (some ⟨br, 0, none⟩) 4 4] 91) (hr : Blk X br #[x.av, x.bv, y.av, y.bv] 22) (h1 : TR X x t) (h2 : TR X y u) :
    KR 91 22 bx br 4 [x.av, x.bv, y.av, y.bv] (rows4 t u) X := by
  refine ⟨hx, hr, rfl, rfl, fun i a b => ?_⟩
  match i, a, b with
  | 0, _, _ => exact h1.a
  | 1, _, _ => exact h1.b
  | 2, _, _ => exact h2.a
  | 3, _, _ => exact h2.b
/-- What holds between two rounds. -/
structure PInv (w : World) (b5 bx br : Nat) (x y : Ti) (n : Nat) (X : World) : Prop where
  n : Blk X b5 #[.int .i64 (n : Int)] 3
  q : Blk X bx #[.slice (some ⟨br, 0, none⟩) 4 4] 91
  r : Blk X br #[x.av, x.bv, y.av, y.bv] 22
  low : Below w.heap.size w X
theorem PInv.later {w X X' : World} {b5 bx br n : Nat} {x y : Ti} (h : PInv w b5 bx br x y n X) (hb : Below X.heap.size X X') : PInv w b5 bx br x y n X' := ⟨h.n.later hb, h.q.later hb, h.r.later hb, below_later h.low hb⟩
theorem PInv.aside {w X X' : World} {b5 bx br n D : Nat} {x y : Ti} (h : PInv w b5 bx br x y n X) (ha : Kit.Aside D X X') (hD : w.heap.size ≤ D) : PInv w b5 bx br x y n X' := ⟨ha.blk h.n, ha.blk h.q, ha.blk h.r, ha.below h.low hD (Nat.le_refl _)⟩
theorem wpIn_scopeM {n : Nat} {P : Program} {c : Code} {Q : Exit → Act → World → Prop} {a : Act} {w : World} (h : c.wpIn Fence.wide n P (Exit.noGoto Q) a w) : (Code.scope c).wpIn Fence.wide n P Q a w := wpIn_wide.2 (wp_scope_straight (wpIn_wide.1 h))
set_option maxRecDepth 100000 in
set_option maxHeartbeats 4000000 in
theorem pairsOf_in (x y : Ti) (t u : Tr) (w : World) (h1 : TR w x t) (h2 : TR w y u) (hl : (t.1.length ≤ 1000 ∧ t.2.length ≤ 1000) ∧ (u.1.length ≤ 1000 ∧ u.2.length ≤ 1000)) :
    CallsIn Fence.wide 6 Try.prog 54 #[.agg #[x.av, x.bv], .agg #[y.av, y.bv]] w fun e w' => e = .returned (.int .i64 ((allP t u).length : Int)) ∧ Below w.heap.size w w' := by
  have HX := Lib.hid h1
  have HY := Lib.hid h2
  have hsm : ∀ r ∈ rows4 t u, r.length ≤ 1000 := fun r hr => by
    simp only [rows4, List.mem_cons, List.not_mem_nil, or_false] at hr
    rcases hr with rfl | rfl | rfl | rfl <;> omega
  have hun : (mrgs (rows4 t u)).length ≤ 8000 := by have := mrgs_len hsm; rw [show (rows4 t u).length = 4 from rfl] at this; omega
  have HSM := Lib.hid hsm
  have HUN := Lib.hid hun
  obtain ⟨ao, an, ac, bo, bn, bc⟩ := x
  obtain ⟨ao', an', ac', bo', bn', bc'⟩ := y
  simp only [Ti.av, Ti.bv]
  clear h1 h2 hl hsm hun
  refine callsIn_of_wp_marks Try.func54 rfl trivial ?_ rfl
  simp only [Try.ntmps54, List.size_toArray, List.length_cons, List.length_nil, Nat.reduceAdd, Nat.reduceSub, Array.replicate_succ, Array.replicate_zero, List.push_toArray, List.append_toArray, List.nil_append, List.cons_append]
  gi_wp2_with fail
  obtain ⟨W0, hW0⟩ : ∃ W0, W0 = ((w.alloc (.cells #[.slice ao an ac, .slice bo bn bc] 24)).alloc (.cells #[.slice ao' an' ac', .slice bo' bn' bc'] 24)).alloc (.cells #[.int .i64 0] 3) := ⟨_, rfl⟩
  have G0 : Gr w W0 := by rw [hW0]; exact ((Gr.alloc _ _).trans (Gr.alloc _ _)).trans (Gr.alloc _ _)
  have kn : Blk W0 (w.heap.size + 1 + 1) #[.int .i64 0] 3 := by
    rw [hW0]
    have := Blk.new ((w.alloc (.cells #[.slice ao an ac, .slice bo bn bc] 24)).alloc (.cells #[.slice ao' an' ac', .slice bo' bn' bc'] 24)) #[.int .i64 0] 3
    simpa using this
  rw [← hW0]
  clear hW0
  refine ⟨trivial, (callsIn_wide.2 (rowsM_any ⟨ao, an, ac, bo, bn, bc⟩ ⟨ao', an', ac', bo', bn', bc'⟩ _)).mono ?_⟩
  rintro e w1 ⟨br, rfl, kr, g1⟩
  have kn1 := kn.later g1.below
  have G1 := G0.trans g1
  simp only [Ti.av, Ti.bv] at kr
  clear kn G0 g1
  gi_wp2_with fail
  refine ⟨trivial, (callsIn_wide.2 (inOrderM_any _ _ _ _)).mono ?_⟩
  rintro e w2 ⟨rfl, rfl⟩
  gi_wp2_with fail
  obtain ⟨W1, hW1⟩ : ∃ W1, W1 = w1.alloc (.cells #[.slice (some ⟨br, 0, none⟩) 4 4] 91) := ⟨_, rfl⟩
  have G2 : Gr w1 W1 := by rw [hW1]; exact Gr.alloc _ _
  have kx : Blk W1 w1.heap.size #[.slice (some ⟨br, 0, none⟩) 4 4] 91 := by rw [hW1]; exact Blk.new _ _ _
  have sz : W1.heap.size = w1.heap.size + 1 := by rw [hW1]; simp
  rw [← hW1]
  clear hW1
  have I0 : PInv w (w.heap.size + 1 + 1) w1.heap.size br ⟨ao, an, ac, bo, bn, bc⟩ ⟨ao', an', ac', bo', bn', bc'⟩ 0 W1 := ⟨kn1.later G2.below, kx, kr.later G2.below, (G1.trans G2).below⟩
  have hseq := inOrder1_in 5 (by decide) w1.heap.size br 4 [.slice ao an ac, .slice bo bn bc, .slice ao' an' ac', .slice bo' bn' bc'] (rows4 t u) (by decide) HSM.out
  have HI0 := Lib.hid I0
  have hs1 : w.heap.size ≤ W1.heap.size := (G1.trans G2).below.size
  have hs5 : w.heap.size + 1 + 1 < W1.heap.size := I0.n.lt
  clear I0 kx kr kn1 G1 G2
  refine rangeI (α := Nat × Pr) rfl (by decide) (gf := 99) (lb := #[.pointer (some ⟨w1.heap.size, 0, none⟩)]) rfl trivial (enters_of Try.func99 (by kernel_rfl) rfl) hseq (fun _ => rfl)
    (fun _ pre W => PInv w (w.heap.size + 1 + 1) w1.heap.size br ⟨ao, an, ac, bo, bn, bc⟩ ⟨ao', an', ac', bo', bn', bc'⟩ pre.length W)
    (fun _ _ _ => False)
    (fun g pre X X' h ha => h.aside ha hs1) (fun c' pre X X' h ha => h) (fun g pre X h => KR.four h.q h.r (HX.out.below h.low (Nat.le_refl _)) (HY.out.below h.low (Nat.le_refl _))) (fun g pre X X' h hb => h.later hb) (fun g _ => HI0.out)
    (fun x r => { tmps := #[.agg #[.slice ao an ac, .slice bo bn bc], .agg #[.slice ao' an' ac', .slice bo' bn' bc'], .pointer (some ⟨w.heap.size, 0, none⟩), .pointer (some ⟨w.heap.size + 1, 0, none⟩), .int .i64 0, .pointer (some ⟨w.heap.size + 1 + 1, 0, none⟩), .agg #[.slice ao an ac, .slice bo bn bc], .agg #[.slice ao' an' ac', .slice bo' bn' bc'], .slice (some ⟨br, 0, none⟩) 4 4, .func (.func 99) #[] #[.pointer (some ⟨w1.heap.size, 0, none⟩)], .int .i64 x.1, PV x.2.1 x.2.2, undef, undef, undef], defers := [] })
    (fun x r W => True) (fun x r X X' h ha => trivial) ?assign ?body ?done ?stop
  case assign =>
    intro lp x W K hK
    gi_wp2
    have h := hK W.heap.size _ (Below.refl _ _) (Nat.le_refl _) trivial
    simpa using h
  case body =>
    rintro lp g pre ⟨i, p⟩ r W hI hg hgl hlen hG hn _
    have n0 := hI.n.cell 0
    have nf := hI.n.frozen 0
    have nl := hI.n.lt
    simp only [List.getElem?_toArray, List.getElem?_cons_zero] at n0
    have NH := Lib.hid (hn.blk hI.n)
    have HI := Lib.hid hI
    have HUL := Lib.hid (show (pre.length : Int) ≤ 8000 by have := HUN.out; omega)
    have hul := HUL.out
    clear hI hG hn
    gi_wp2_with fail
    refine ⟨(Keep2.refl _ _).setCell NH.out.1 NH.out.2 _, ?_, Below.heap_setCell _ _ _ _ (by simp; omega)⟩
    refine ⟨?_, HI.out.q.other (p := ⟨w.heap.size + 1 + 1, 0, none⟩) (HI.out.q.ne HI.out.n (by decide)) _, HI.out.r.other (p := ⟨w.heap.size + 1 + 1, 0, none⟩) (HI.out.r.ne HI.out.n (by decide)) _, HI.out.low.setCell (by simp; omega) _⟩
    have := HI.out.n.set 0 (.int .i64 ((pre.length : Int) + 1))
    simpa using this
  case done =>
    rintro D g ys W hS hI hD hK
    have k3 := hI.n.cell 0
    have l3 := hI.n.lt
    simp only [List.getElem?_toArray, List.getElem?_cons_zero] at k3
    have HI := Lib.hid hI
    have HK := Lib.hid hK
    have HS := Lib.hid hS
    clear hI hK hS
    gi_wp2
    refine ⟨by simp, .inl ⟨_, _, rfl, run_takeDeferred HK.out, ?_⟩⟩
    refine ⟨.int .i64 (ys.length : Int), by simp [results, Try.results54, go_sem], by rw [HS.out]; rfl, HI.out.low.trans (below_put' W _ (by omega))⟩
  case stop =>
    rintro D c' pre W _ h
    exact h.elim
theorem pairsOf_any (x y : Ti) (t u : Tr) (w : World) (h1 : TR w x t) (h2 : TR w y u) (hl : (t.1.length ≤ 1000 ∧ t.2.length ≤ 1000) ∧ (u.1.length ≤ 1000 ∧ u.2.length ≤ 1000)) :
    Calls Try.prog 54 #[.agg #[x.av, x.bv], .agg #[y.av, y.bv]] w fun e w' => e = .returned (.int .i64 ((allP t u).length : Int)) ∧ Below w.heap.size w w' := (callsIn_wide (n := 6)).1 (pairsOf_in x y t u w h1 h2 hl)
end Go.Proofs.Ytlhigfphfbmbjaa


/- merge.outBehind: what holds between two rounds. -/
namespace Go.Proofs.Kit
open Go.RowKit
/-- Two tiers, one behind the other, row by row. -/
def addT (a b : Tr) : Tr := (a.1 ++ b.1, a.2 ++ b.2)
/-- What stands in Out behind so many pairs. -/
def accT (o : Bool) (t u A : Tr) (at' k : Nat) : Tr := addT A (toT o t u (((allP t u).take k).drop at'))
theorem accT_start (o : Bool) (t u A : Tr) (at' : Nat) : accT o t u A at' 0 = A := by
  unfold accT addT toT
  cases o <;> simp
theorem accT_skip {o : Bool} {t u A : Tr} {at' k : Nat} (h : k < at') : accT o t u A at' (k + 1) = accT o t u A at' k := by
  have e : ∀ j, j ≤ at' → ((allP t u).take j).drop at' = [] := fun j hj => List.drop_of_length_le (by simp; omega)
  unfold accT
  rw [e _ (by omega), e _ (by omega)]
theorem accT_next {o : Bool} {t u A : Tr} {at' k : Nat} (h : at' ≤ k) (hk : k < (allP t u).length) : accT o t u A at' (k + 1) =
    if sayB t u (allP t u)[k] then ((accT o t u A at' k).1 ++ [(allP t u)[k]], (accT o t u A at' k).2) else if o then accT o t u A at' k else ((accT o t u A at' k).1, (accT o t u A at' k).2 ++ [(allP t u)[k]]) := by
  have e : ((allP t u).take (k + 1)).drop at' = ((allP t u).take k).drop at' ++ [(allP t u)[k]] := by
    rw [List.take_succ_eq_append_getElem hk, List.drop_append_of_le_length (by simp; omega)]
  unfold accT
  rw [e, toT_snoc]
  cases sayB t u (allP t u)[k] <;> cases o <;> simp [addT]
theorem accT_len {o : Bool} {t u A : Tr} {at' k : Nat} : (accT o t u A at' k).1.length ≤ A.1.length + (allP t u).length ∧ (accT o t u A at' k).2.length ≤ A.2.length + (allP t u).length := by
  have h := toT_len o t u (((allP t u).take k).drop at')
  have h2 : (((allP t u).take k).drop at').length ≤ (allP t u).length := by simp; omega
  unfold accT addT
  simp only [List.length_append]
  omega
/-- append of one pair that lies in a block onto a row of the call's own; the row lies where it lay, or behind all. -/
theorem wpListIn_append_pair {F : Fence} {n : Nat} {P : Program} {w : World} {ops : Array Oper} {rest : List Oper} {o : Oper} {a : Act} {Q : Exit → Act → World → Prop} (hgd : o.guard = none) (s x : Operand) (t : TypeId)
    (ho : o.op = .call { callee := .builtin .append, args := #[s, x], argTypes := #[t, t] })
    (base : Nat) (e : TypeId) (i : TypeInfo) (z : Value) (ht : P.underlying t = some (.slice e)) (hi : P.info? e = some i) (hz : i.zero = some z) (hsize : i.size = 2) (hby : i.bytes = 16) (hzs : z.cells.size = 2)
    (v : Value) (l : List Pr) (hs : a.eval s = v) (hown : OwnP e base w v l) (b : Nat) (p : Pr) (t' : TypeId) (hx : a.eval x = .slice (some ⟨b, 0, none⟩) 1 1) (hb : Blk w b #[.int .u64 p.1, .int .u64 p.2] t')
    (h63 : l.length + 1 ≤ 8000000000000) (hbase : base ≤ w.heap.size)
    (h : ∀ v' w', OwnP e base w' v' (l ++ [p]) → w.grownBy w' v.ownBlock → (v'.ownBlock = v.ownBlock ∨ v'.ownBlock = some w.heap.size) → wpListIn F n P ops Q rest (a.put o.dst v') w') : wpListIn F n P ops Q (o :: rest) a w := by
  refine wpListIn_append_own_at w hgd s x t ho base e i z 2 16 ht hi hz hsize hby hzs (by decide) v _ _ hs hown.2 ⟨b, 0, none⟩ 1 1 (flat [p]) hx rfl ?_ (flat_one _) (by unfold maxLen; omega) (by omega) hbase ?_
  · intro j u hj
    rw [Addr.add_lit, Nat.zero_add, hb.cell, ← hj, show flat [p] = [.int .u64 p.1, .int .u64 p.2] from rfl]
    simp
  · intro v' w' hO hG _ hat
    refine h v' w' ⟨by rw [List.length_append]; simp; omega, ?_⟩ hG hat
    rw [List.length_append, flat_append]
    exact hO
theorem TI.keep2 {ti : TypeId} {lo D : Nat} {W W' : World} (h : TI ti lo W W') (hn : NC D W) : Keep2 D W W' := ⟨h.size, h.same D (by have := hn.1; omega) (.inr fun vs f => hn.2 D vs ti f (.inl rfl)), h.same (D + 1) hn.1 (.inr fun vs f => hn.2 (D + 1) vs ti f (.inr rfl))⟩
theorem TI.nc {ti : TypeId} {lo D : Nat} {W W' : World} (h : TI ti lo W W') (hn : NC D W) : NC D W' :=
  ⟨Nat.lt_of_lt_of_le hn.1 h.size, fun k vs t f hk e => by
    have hs : W'.heap[k]? = W.heap[k]? := h.same k (by have := hn.1; omega) (.inr fun us f' => hn.2 k us ti f' hk)
    exact hn.2 k vs t f hk (hs.symm.trans e)⟩
theorem OwnP.row {t : TypeId} {B b : Nat} {w : World} {v : Value} {l : List Pr} (h : OwnP t B w v l) (hb : v.ownBlock = some b) : B ≤ b ∧ ∃ cs f, w.heap[b]? = some (.cells cs t f) := by
  rcases h.2.2 with ⟨rfl, _⟩ | ⟨g', cap, cur, rfl, h2, h3, _⟩
  · simp [Value.ownBlock] at hb
  · simp [Value.ownBlock] at hb
    subst hb
    exact ⟨h2, _, _, h3⟩
theorem OwnP.putD {t : TypeId} {B D : Nat} {w : World} {v : Value} {l : List Pr} {x : Option (List Deferred)} (h : OwnP t B w v l) (o : Obj) (hD : w.heap[D]? = some (.deferred x)) : OwnP t B (w.putObj D o) v l :=
  h.same fun g hg => World.putObj_heap_other (by
    rintro rfl
    obtain ⟨_, cs, f, hc⟩ := h.row hg
    rw [hD] at hc
    cases hc)
end Go.Proofs.Kit
namespace Go.Proofs.Ytlhigfphfbmbjaa
open Go.RowKit Go.Proofs.Kit Go.Shelf
/-- A merge as it lies. -/
abbrev mgV (x y z : Ti) (o : Bool) (at' : Int) : Array Value := #[x.av, x.bv, y.av, y.bv, .bool o, .int .i64 at', z.av, z.bv]
/-- The tier under work. -/
structure OTi (w : World) (b5 : Nat) (A : Tr) (g : Nat) (W : World) (z : Ti) : Prop where
  k : Blk W b5 #[z.av, z.bv] 24
  q : OwnQ 53 w.heap.size W z A
  ga : z.av.ownBlock ≠ some g
  gb : z.bv.ownBlock ≠ some g
  ab : ∀ j, z.av.ownBlock = some j → z.bv.ownBlock ≠ some j
/-- What holds between two rounds of outBehind's loop. -/
structure OInv (w : World) (lo b5 b6 bx br : Nat) (s : SBA) (x y zo : Ti) (t u : Tr) (o : Bool) (at' : Int) (n : Nat) (A : Tr) (g k : Nat) (W : World) : Prop where
  fm : Blk W w.heap.size (mgV x y zo o at') 26
  fn : Blk W (w.heap.size + 1) #[.int .i64 (n : Int)] 3
  ft : Blk W (w.heap.size + 2) #[.slice none 0 0, .slice none 0 0] 24
  fo : ∃ z, OTi w b5 A g W z
  ff : Blk W b6 #[.func (.func 112) #[] #[.pointer (some ⟨s.b1, 0, none⟩), .pointer (some ⟨s.b2, 0, none⟩), .pointer (some ⟨s.b3, 0, none⟩)]] 102
  fs : ∃ k1 k2 k3, SBS lo s y.av y.bv x.av t u W k1 k2 k3 ∧ ∀ j (h : j < (allP t u).length), k ≤ j → BB t u k1 k2 k3 (allP t u)[j]
  fq : Blk W bx #[.slice (some ⟨br, 0, none⟩) 4 4] 91
  fr : Blk W br #[x.av, x.bv, y.av, y.bv] 22
  low : Below w.heap.size w W
  lo : w.heap.size + 2 < lo
  low5 : w.heap.size + 2 < b5
section
variable {w W W' : World} {lo b5 b6 bx br : Nat} {s : SBA} {x y zo : Ti} {t u : Tr} {o : Bool} {at' : Int} {n : Nat} {A : Tr} {g k : Nat}
theorem OTi.later {z : Ti} (h : OTi w b5 A g W z) (hb : Below W.heap.size W W') : OTi w b5 A g W' z := ⟨h.k.later hb, h.q.later hb, h.ga, h.gb, h.ab⟩
theorem OInv.later (h : OInv w lo b5 b6 bx br s x y zo t u o at' n A g k W) (hb : Below W.heap.size W W') : OInv w lo b5 b6 bx br s x y zo t u o at' n A g k W' := by
  obtain ⟨z, hz⟩ := h.fo
  obtain ⟨k1, k2, k3, h1, h2⟩ := h.fs
  exact ⟨h.fm.later hb, h.fn.later hb, h.ft.later hb, ⟨z, hz.later hb⟩, h.ff.later hb, ⟨k1, k2, k3, h1.later hb, h2⟩, h.fq.later hb, h.fr.later hb, below_later h.low hb, h.lo, h.low5⟩
theorem OInv.aside {D : Nat} (h : OInv w lo b5 b6 bx br s x y zo t u o at' n A g k W) (ha : Kit.Aside D W W') (hD : w.heap.size ≤ D) : OInv w lo b5 b6 bx br s x y zo t u o at' n A g k W' := by
  obtain ⟨z, hz⟩ := h.fo
  obtain ⟨k1, k2, k3, h1, h2⟩ := h.fs
  exact ⟨ha.blk h.fm, ha.blk h.fn, ha.blk h.ft, ⟨z, ha.blk hz.k, ⟨ha.ownP hz.q.1, ha.ownP hz.q.2⟩, hz.ga, hz.gb, hz.ab⟩, ha.blk h.ff,
    ⟨k1, k2, k3, ⟨ha.blk h1.b1, ha.blk h1.b2, ha.blk h1.b3, ⟨ha.blk h1.a1.i, ha.blk h1.a1.r, h1.a1.le⟩, ⟨ha.blk h1.a2.i, ha.blk h1.a2.r, h1.a2.le⟩, ⟨ha.blk h1.a3.i, ha.blk h1.a3.r, h1.a3.le⟩, h1.l1, h1.l2, h1.l3⟩, h2⟩,
    ha.blk h.fq, ha.blk h.fr, ha.below h.low hD (Nat.le_refl _), h.lo, h.low5⟩
theorem OInv.skip (h : OInv w lo b5 b6 bx br s x y zo t u o at' n A g k W) : OInv w lo b5 b6 bx br s x y zo t u o at' n A g (k + 1) W := by
  obtain ⟨k1, k2, k3, h1, h2⟩ := h.fs
  exact ⟨h.fm, h.fn, h.ft, h.fo, h.ff, ⟨k1, k2, k3, h1, fun j a b => h2 j a (by omega)⟩, h.fq, h.fr, h.low, h.lo, h.low5⟩
/-- Behind a question. -/
theorem OInv.asked {k1 k2 k3 : Nat} (h : OInv w lo b5 b6 bx br s x y zo t u o at' n A g k W) (hT : TI 3 lo W W') (hlo : lo ≤ W.heap.size) (hr : Run (allP t u)) (hk : k < (allP t u).length)
    (hs : SBS lo s y.av y.bv x.av t u W' k1 k2 k3) (hb : BB t u k1 k2 k3 (allP t u)[k]) : OInv w lo b5 b6 bx br s x y zo t u o at' n A g (k + 1) W' := by
  obtain ⟨z, hz⟩ := h.fo
  have hb' := hT.below hlo
  exact ⟨hT.blk h.fm (by decide), h.fn.below hb' (by have := h.lo; omega), hT.blk h.ft (by decide), ⟨z, hT.blk hz.k (by decide), ⟨hT.ownP hz.q.1 (by decide), hT.ownP hz.q.2 (by decide)⟩, hz.ga, hz.gb, hz.ab⟩, hT.blk h.ff (by decide),
    ⟨k1, k2, k3, hs, fun j a b => hb.mono (hr.at hk a (by omega))⟩, hT.blk h.fq (by decide), hT.blk h.fr (by decide), h.low.trans (hb'.mono (by have := h.lo; omega)), h.lo, h.low5⟩
/-- Behind an append to one of the rows, and the store. -/
theorem OInv.put {A' : Tr} {z z' : Ti} {row : Option Nat} {j : Nat} {v : Value} (h : OInv w lo b5 b6 bx br s x y zo t u o at' n A g k W) (hG : W.grownBy W' row) (hrow : ∀ b, row = some b → w.heap.size ≤ b ∧ ∃ cs f, W.heap[b]? = some (.cells cs 53 f))
    (hk : Blk W b5 #[z.av, z.bv] 24) (hz' : OwnQ 53 w.heap.size W' z' A') (hga : z'.av.ownBlock ≠ some g) (hgb : z'.bv.ownBlock ≠ some g) (hab : ∀ j, z'.av.ownBlock = some j → z'.bv.ownBlock ≠ some j) (hv : #[z.av, z.bv].setIfInBounds j v = #[z'.av, z'.bv]) :
    OInv w lo b5 b6 bx br s x y zo t u o at' n A' g k (W'.setCell ⟨b5, j, none⟩ v) := by
  have hne : ∀ {b : Nat} {vs : Array Value} {ty : TypeId}, Blk W b vs ty → ty ≠ 53 → row ≠ some b := fun {b vs ty} hb ht e => by
    obtain ⟨_, cs, f, hc⟩ := hrow b e
    rw [show W.heap[b]? = _ from hb] at hc
    injection hc with hc
    injection hc with _ e2 _
    exact ht e2
  have hk5 : Blk W' b5 #[z.av, z.bv] 24 := hk.grown hG (hne hk (by decide))
  have hset : ∀ {b : Nat} {vs : Array Value} {ty : TypeId}, Blk W b vs ty → ty ≠ 53 → ty ≠ 24 → Blk (W'.setCell ⟨b5, j, none⟩ v) b vs ty := fun hb h1 h2 => (hb.grown hG (hne hb h1)).other (p := ⟨b5, j, none⟩) ((hb.grown hG (hne hb h1)).ne hk5 h2) v
  obtain ⟨k1, k2, k3, h1, h2⟩ := h.fs
  have hkt := (h.ft.grown hG (hne h.ft (by decide))).other (p := ⟨b5, j, none⟩) (by have := h.low5; simp; omega) v
  refine ⟨hset h.fm (by decide) (by decide), hset h.fn (by decide) (by decide), hkt, ⟨z', ?_, ⟨?_, ?_⟩, hga, hgb, hab⟩, hset h.ff (by decide) (by decide),
    ⟨k1, k2, k3, ⟨hset h1.b1 (by decide) (by decide), hset h1.b2 (by decide) (by decide), hset h1.b3 (by decide) (by decide), ⟨hset h1.a1.i (by decide) (by decide), hset h1.a1.r (by decide) (by decide), h1.a1.le⟩, ⟨hset h1.a2.i (by decide) (by decide), hset h1.a2.r (by decide) (by decide), h1.a2.le⟩, ⟨hset h1.a3.i (by decide) (by decide), hset h1.a3.r (by decide) (by decide), h1.a3.le⟩, h1.l1, h1.l2, h1.l3⟩, h2⟩,
    hset h.fq (by decide) (by decide), hset h.fr (by decide) (by decide), ?_, h.lo, h.low5⟩
  · have := hk5.set j v
    rw [hv] at this
    exact this
  · exact hz'.1.otherB hk5 (by decide) j v
  · exact hz'.2.otherB hk5 (by decide) j v
  · refine (h.low.grown hG h.low.size (fun b hb => (hrow b hb).1)).setCell ?_ _
    have := h.low5
    simp
    omega
end
end Go.Proofs.Ytlhigfphfbmbjaa


/- merge.outBehind. -/
namespace Go.Proofs.Ytlhigfphfbmbjaa
open Go.RowKit Go.Proofs.Kit Go.Shelf
attribute [local go_sem] Oper.semAt_some
set_option maxRecDepth 100000 in
set_option maxHeartbeats 16000000 in
theorem outB_in (x y z : Ti) (t u A0 : Tr) (o : Bool) (at' n : Nat) (w : World) (h1 : TR w x t) (h2 : TR w y u) (h3 : TR w z A0) (ht : oneT t) (hu : oneT u)
    (hl : (t.1.length ≤ 1000 ∧ t.2.length ≤ 1000) ∧ (u.1.length ≤ 1000 ∧ u.2.length ≤ 1000)) (hA : A0.1.length ≤ 100000 ∧ A0.2.length ≤ 100000) (hk : at' + n ≤ (allP t u).length) :
    CallsIn Fence.wide 6 Try.prog 78 #[.agg (mgV x y z o at'), .int .i64 (n : Int)] w fun e w' => ∃ z' : Ti, e = .returned (.agg #[z'.av, z'.bv]) ∧ OwnD 53 w.heap.size w' z' (accT o t u A0 at' (at' + n)) ∧ Below w.heap.size w w' := by
  obtain ⟨i0, hi, hz0, hz1, hz2⟩ := infoP
  have hu4 := allP_len (m := 1000) ⟨hl.1.1, hl.1.2, hl.2.1, hl.2.2⟩
  have hsm : ∀ r ∈ rows4 t u, r.length ≤ 1000 := fun r hr => by
    simp only [rows4, List.mem_cons, List.not_mem_nil, or_false] at hr
    rcases hr with rfl | rfl | rfl | rfl <;> omega
  have HX := Lib.hid h1
  have HY := Lib.hid h2
  have HSBR := Lib.hid (show SBR y.av y.bv x.av t u w from ⟨h2.a, h2.b, h1.a, hu.1.1.1, hu.1.2.1, ht.1.1.1, by omega, by omega, by omega⟩)
  have HWR := Lib.hid (fun W (hb : Below w.heap.size w W) => withRoom_any z A0 n W (h3.later hb) (by omega))
  have HRUN := Lib.hid (allP_uni ht hu).2
  have HSM := Lib.hid hsm
  have HLEN := Lib.hid (fun k => accT_len (o := o) (t := t) (u := u) (A := A0) (at' := at') (k := k))
  have HALEN := Lib.hid hA
  have hk2 : at' + n ≤ 4000 := by omega
  have HK := Lib.hid hk
  have HU4 := Lib.hid hu4
  obtain ⟨ao, an, ac, bo, bn, bc⟩ := x
  obtain ⟨ao', an', ac', bo', bn', bc'⟩ := y
  obtain ⟨ao2, an2, ac2, bo2, bn2, bc2⟩ := z
  simp only [mgV, Ti.av, Ti.bv] at HSBR HWR ⊢
  clear h1 h2 h3 ht hu hl hA hsm hk hu4
  refine callsIn_of_wp_marks Try.func78 rfl trivial ?_ rfl
  simp only [Try.ntmps78, List.size_toArray, List.length_cons, List.length_nil, Nat.reduceAdd, Nat.reduceSub, Array.replicate_succ, Array.replicate_zero, List.push_toArray, List.append_toArray, List.nil_append, List.cons_append]
  gi_wp2_with fail
  refine wpIn_scopeM ?_
  gi_wp2_with fail
  obtain ⟨W0, hW0⟩ : ∃ W0, W0 = ((w.alloc (.cells #[.slice ao an ac, .slice bo bn bc, .slice ao' an' ac', .slice bo' bn' bc', .bool o, .int .i64 (at' : Int), .slice ao2 an2 ac2, .slice bo2 bn2 bc2] 26)).alloc (.cells #[.int .i64 (n : Int)] 3)).alloc (.cells #[.slice none 0 0, .slice none 0 0] 24) := ⟨_, rfl⟩
  have G0 : Gr w W0 := by rw [hW0]; exact ((Gr.alloc _ _).trans (Gr.alloc _ _)).trans (Gr.alloc _ _)
  have km : Blk W0 w.heap.size #[.slice ao an ac, .slice bo bn bc, .slice ao' an' ac', .slice bo' bn' bc', .bool o, .int .i64 (at' : Int), .slice ao2 an2 ac2, .slice bo2 bn2 bc2] 26 := by rw [hW0]; exact ((Blk.new _ _ _).alloc _).alloc _
  have kn : Blk W0 (w.heap.size + 1) #[.int .i64 (n : Int)] 3 := by
    rw [hW0]
    have := (Blk.new (w.alloc (.cells #[.slice ao an ac, .slice bo bn bc, .slice ao' an' ac', .slice bo' bn' bc', .bool o, .int .i64 (at' : Int), .slice ao2 an2 ac2, .slice bo2 bn2 bc2] 26)) #[.int .i64 (n : Int)] 3).alloc (.cells #[.slice none 0 0, .slice none 0 0] 24)
    simpa using this
  have kt : Blk W0 (w.heap.size + 2) #[.slice none 0 0, .slice none 0 0] 24 := by
    rw [hW0]
    have := Blk.new ((w.alloc (.cells #[.slice ao an ac, .slice bo bn bc, .slice ao' an' ac', .slice bo' bn' bc', .bool o, .int .i64 (at' : Int), .slice ao2 an2 ac2, .slice bo2 bn2 bc2] 26)).alloc (.cells #[.int .i64 (n : Int)] 3)) #[.slice none 0 0, .slice none 0 0] 24
    simpa using this
  rw [← hW0]
  clear hW0
  refine ⟨trivial, (callsIn_wide.2 (HWR.out _ G0.below)).mono ?_⟩
  rintro e w1 ⟨⟨oA, nA, xA, oB, nB, xB⟩, rfl, q1, b1, d1⟩
  have KM := Lib.hid (km.later b1)
  have KN := Lib.hid (kn.later b1)
  have KT := Lib.hid (kt.later b1)
  have L1 := Lib.hid (below_later G0.below b1)
  have Q1 := Lib.hid (q1.mono (B' := w.heap.size) G0.below.size)
  have HLT := Lib.hid (And.intro q1.1.lt q1.2.lt)
  have HD := Lib.hid d1
  have m1 := KM.out.cell 0
  have m2 := KM.out.cell 1
  have m3 := KM.out.cell 2
  have m4 := KM.out.cell 3
  have lm := KM.out.lt
  simp only [List.getElem?_toArray, List.getElem?_cons_zero, List.getElem?_cons_succ] at m1 m2 m3 m4
  clear km kn kt G0 b1 q1 d1 HWR
  gi_wp2_with fail
  obtain ⟨W2, hW2⟩ : ∃ W2, W2 = w1.alloc (.cells #[.slice oA nA xA, .slice oB nB xB] 24) := ⟨_, rfl⟩
  have G2 : Gr w1 W2 := by rw [hW2]; exact Gr.alloc _ _
  have k5 : Blk W2 w1.heap.size #[.slice oA nA xA, .slice oB nB xB] 24 := by rw [hW2]; exact Blk.new _ _ _
  have s2 : W2.heap.size = w1.heap.size + 1 := by rw [hW2]; simp
  rw [← hW2]
  clear hW2
  refine ⟨trivial, (callsIn_wide.2 (saidBy_any ⟨ao, an, ac, bo, bn, bc⟩ ⟨ao', an', ac', bo', bn', bc'⟩ W2)).mono ?_⟩
  rintro e w3 ⟨c1, c2, c3, i1, i2, i3, f1, f2, f3, rfl, _, kc1, kc2, kc3, ⟨r1, rfl, p1, q1, g1⟩, ⟨r2, rfl, p2, q2, g2⟩, ⟨r3, rfl, p3, q3, g3⟩, l12, l23, b3⟩
  have hSBS : SBS W2.heap.size ⟨c1, c2, c3, i1, r1, i2, r2, i3, r3⟩ (.slice ao' an' ac') (.slice bo' bn' bc') (.slice ao an ac) t u w3 0 0 0 :=
    ⟨kc1, kc2, kc3, ⟨p1, q1, Nat.zero_le _⟩, ⟨p2, q2, Nat.zero_le _⟩, ⟨p3, q3, Nat.zero_le _⟩, g1, l12, l23⟩
  have b13 : Below w1.heap.size w1 w3 := below_later G2.below b3
  have HS := Lib.hid hSBS
  have HLT5 := Lib.hid (show w.heap.size + 2 < w1.heap.size from KT.out.lt)
  have HLO := Lib.hid (show w.heap.size + 2 < W2.heap.size by have := HLT5.out; omega)
  have KM := Lib.hid (KM.out.later b13)
  have KN := Lib.hid (KN.out.later b13)
  have KT := Lib.hid (KT.out.later b13)
  have K5 := Lib.hid (k5.later b3)
  have L3 := Lib.hid (below_later L1.out b13)
  have Q3 := Lib.hid (Q1.out.later b13)
  have m1 := KM.out.cell 0
  have m2 := KM.out.cell 1
  have m3 := KM.out.cell 2
  have m4 := KM.out.cell 3
  have lm := KM.out.lt
  simp only [List.getElem?_toArray, List.getElem?_cons_zero, List.getElem?_cons_succ] at m1 m2 m3 m4
  clear kc1 kc2 kc3 p1 q1 g1 p2 q2 g2 p3 q3 g3 l12 l23 b3 b13 hSBS G2 k5 L1 Q1
  gi_wp2_with fail
  obtain ⟨W4, hW4⟩ : ∃ W4, W4 = w3.alloc (.cells #[.func (.func 112) #[] #[.pointer (some ⟨c1, 0, none⟩), .pointer (some ⟨c2, 0, none⟩), .pointer (some ⟨c3, 0, none⟩)]] 102) := ⟨_, rfl⟩
  have G4 : Gr w3 W4 := by rw [hW4]; exact Gr.alloc _ _
  have k6 : Blk W4 w3.heap.size #[.func (.func 112) #[] #[.pointer (some ⟨c1, 0, none⟩), .pointer (some ⟨c2, 0, none⟩), .pointer (some ⟨c3, 0, none⟩)]] 102 := by rw [hW4]; exact Blk.new _ _ _
  rw [← hW4]
  clear hW4
  have m1 := (KM.out.later G4.below).cell 0
  have m2 := (KM.out.later G4.below).cell 1
  have m3 := (KM.out.later G4.below).cell 2
  have m4 := (KM.out.later G4.below).cell 3
  have lm := (KM.out.later G4.below).lt
  simp only [List.getElem?_toArray, List.getElem?_cons_zero, List.getElem?_cons_succ] at m1 m2 m3 m4
  refine wpIn_label ?_
  gi_wp2_with fail
  refine ⟨trivial, (callsIn_wide.2 (rowsM_any ⟨ao, an, ac, bo, bn, bc⟩ ⟨ao', an', ac', bo', bn', bc'⟩ W4)).mono ?_⟩
  rintro e w5 ⟨br, rfl, kr, g5⟩
  have K6 := Lib.hid (k6.later g5.below)
  have KR := Lib.hid kr
  have HG := Lib.hid (G4.trans g5)
  clear k6 G4 kr g5 m1 m2 m3 m4 lm
  gi_wp2_with fail
  refine ⟨trivial, (callsIn_wide.2 (inOrderM_any _ _ _ _)).mono ?_⟩
  rintro e w6 ⟨rfl, rfl⟩
  gi_wp2_with fail
  obtain ⟨W1, hW1⟩ : ∃ W1, W1 = w5.alloc (.cells #[.slice (some ⟨br, 0, none⟩) 4 4] 91) := ⟨_, rfl⟩
  have G6 : Gr w5 W1 := by rw [hW1]; exact Gr.alloc _ _
  have kx : Blk W1 w5.heap.size #[.slice (some ⟨br, 0, none⟩) 4 4] 91 := by rw [hW1]; exact Blk.new _ _ _
  have hgr := (HG.out.trans G6).below
  rw [← hW1]
  clear hW1
  have hA1 := HLT.out.1
  have hA2 := HLT.out.2
  have hw13 : w1.heap.size < W1.heap.size := by have := K5.out.lt; have := hgr.size; omega
  have I0 : ∀ g, W1.heap.size + 2 ≤ g → OInv w W2.heap.size w1.heap.size w3.heap.size w5.heap.size br ⟨c1, c2, c3, i1, r1, i2, r2, i3, r3⟩ ⟨ao, an, ac, bo, bn, bc⟩ ⟨ao', an', ac', bo', bn', bc'⟩ ⟨ao2, an2, ac2, bo2, bn2, bc2⟩ t u o at' n (accT o t u A0 at' 0) g 0 W1 := fun g hg => by
    refine ⟨KM.out.later hgr, KN.out.later hgr, KT.out.later hgr, ⟨⟨oA, nA, xA, oB, nB, xB⟩, K5.out.later hgr, ?_, fun e => ?_, fun e => ?_, HD.out⟩, K6.out.later G6.below, ⟨0, 0, 0, HS.out.later hgr, fun j _ _ => ⟨Beh.zero _ _, Beh.zero _ _, Beh.zero _ _⟩⟩, kx, KR.out.later G6.below, below_later L3.out hgr, HLO.out, HLT5.out⟩
    · rw [accT_start]; exact Q3.out.later hgr
    · have := (hA1 g e).2; omega
    · have := (hA2 g e).2; omega
  have HI0 := Lib.hid I0
  have hs1 : w.heap.size ≤ W1.heap.size := by have := HLT5.out; omega
  have HLOW := Lib.hid (show W2.heap.size ≤ W1.heap.size by omega)
  have hseq := inOrder1_in 5 (by decide) w5.heap.size br 4 [.slice ao an ac, .slice bo bn bc, .slice ao' an' ac', .slice bo' bn' bc'] (rows4 t u) (by decide) HSM.out
  clear I0 kx hgr G6 hA1 hA2 KM KN KT K5 K6 KR HG HS Q3 L3
  refine rangeI (α := Nat × Pr) rfl (by decide) (gf := 99) (lb := #[.pointer (some ⟨w5.heap.size, 0, none⟩)]) rfl trivial (enters_of Try.func99 (by kernel_rfl) rfl) hseq (fun _ => rfl)
    (fun g pre W => pre.length ≤ at' + n ∧ OInv w W2.heap.size w1.heap.size w3.heap.size w5.heap.size br ⟨c1, c2, c3, i1, r1, i2, r2, i3, r3⟩ ⟨ao, an, ac, bo, bn, bc⟩ ⟨ao', an', ac', bo', bn', bc'⟩ ⟨ao2, an2, ac2, bo2, bn2, bc2⟩ t u o at' n (accT o t u A0 at' pre.length) g pre.length W)
    (fun c' _ W => c' = .exit 0 ∧ ∃ g k, OInv w W2.heap.size w1.heap.size w3.heap.size w5.heap.size br ⟨c1, c2, c3, i1, r1, i2, r2, i3, r3⟩ ⟨ao, an, ac, bo, bn, bc⟩ ⟨ao', an', ac', bo', bn', bc'⟩ ⟨ao2, an2, ac2, bo2, bn2, bc2⟩ t u o at' n (accT o t u A0 at' (at' + n)) g k W)
    (fun g pre X X' h ha => ⟨h.1, h.2.aside ha hs1⟩) (fun c' pre X X' h ha => by obtain ⟨h1, g, k, h2⟩ := h; exact ⟨h1, g, k, h2.aside ha hs1⟩) (fun g pre X h => KR.four h.2.fq h.2.fr (HX.out.below h.2.low (Nat.le_refl _)) (HY.out.below h.2.low (Nat.le_refl _))) (fun g pre X X' h hb => ⟨h.1, h.2.later hb⟩) (fun g hg => ⟨Nat.zero_le _, HI0.out g hg⟩)
    (fun x r => { tmps := #[.agg #[.slice ao an ac, .slice bo bn bc, .slice ao' an' ac', .slice bo' bn' bc', .bool o, .int .i64 (at' : Int), .slice ao2 an2 ac2, .slice bo2 bn2 bc2], .int .i64 (n : Int), .pointer (some ⟨w.heap.size, 0, none⟩), .pointer (some ⟨w.heap.size + 1, 0, none⟩), .pointer (some ⟨w.heap.size + 1 + 1, 0, none⟩), .pointer (some ⟨w1.heap.size, 0, none⟩), .pointer (some ⟨w3.heap.size, 0, none⟩), .int .i64 x.1, .pointer (some ⟨r, 0, none⟩), .pointer (some ⟨w.heap.size, 6, none⟩), .agg #[.slice ao2 an2 ac2, .slice bo2 bn2 bc2], .int .i64 (n : Int), .agg #[.slice oA nA xA, .slice oB nB xB], .pointer (some ⟨w.heap.size, 0, none⟩), .agg #[.slice ao an ac, .slice bo bn bc], .pointer (some ⟨w.heap.size, 2, none⟩), .agg #[.slice ao' an' ac', .slice bo' bn' bc'], .func (.func 112) #[] #[.pointer (some ⟨c1, 0, none⟩), .pointer (some ⟨c2, 0, none⟩), .pointer (some ⟨c3, 0, none⟩)], .pointer (some ⟨w.heap.size, 0, none⟩), .agg #[.slice ao an ac, .slice bo bn bc], .pointer (some ⟨w.heap.size, 2, none⟩), .agg #[.slice ao' an' ac', .slice bo' bn' bc'], .slice (some ⟨br, 0, none⟩) 4 4, .func (.func 99) #[] #[.pointer (some ⟨w5.heap.size, 0, none⟩)], .int .i64 x.1, PV x.2.1 x.2.2, undef, undef, undef, undef, undef, undef, undef, undef, undef, undef, undef, undef, undef, undef, undef, undef, undef, undef, undef, undef, undef, undef, undef, undef, undef, undef, undef, undef, undef, undef, undef, undef, undef, undef], defers := [] })
    (fun x r W => Blk W r #[.int .u64 x.2.1, .int .u64 x.2.2] 53) (fun x r X X' h ha => ha.blk h) ?assign ?body ?done ?stop
  case assign =>
    intro lp x W K hK
    gi_wp2
    have h := hK W.heap.size _ (Gr.alloc W (.cells #[.int .u64 x.2.1, .int .u64 x.2.2] 53)).below (Nat.le_refl _) (Blk.new _ _ _)
    simpa using h
  case body =>
    rintro lp g pre ⟨i, p⟩ r W ⟨hpl, hI⟩ hg hgo hlen hG hn hR
    obtain ⟨hG1, hG2⟩ := hG
    injection hG2 with hG2 hG3
    subst hG2
    have hG3' : p = (allP t u)[pre.length]'hG1 := hG3
    obtain ⟨p1, p2⟩ := p
    simp only at hR
    obtain ⟨og, hgo⟩ := hgo
    have m3 := hI.fm.cell 5
    have n0 := hI.fn.cell 0
    have lm := hI.fm.lt
    have ln := hI.fn.lt
    simp only [List.getElem?_toArray, List.getElem?_cons_zero, List.getElem?_cons_succ] at m3 n0
    have HI := Lib.hid hI
    have HP := Lib.hid hG3'
    have HN := Lib.hid hn
    have HRR := Lib.hid hR
    have HGW := Lib.hid hgo
    clear hI hG3 hG3' hn hR hgo
    by_cases ha : pre.length < at'
    · have t0 : decide (pre.length < at') = true := decide_eq_true ha
      gi_wp2_with fail
      refine ⟨Keep2.refl _ _, ⟨by simp; omega, ?_⟩, rfl⟩
      rw [List.length_append, List.length_singleton, accT_skip ha]
      exact HI.out.skip
    · have t0 : decide (pre.length < at') = false := decide_eq_false ha
      by_cases hb : pre.length = at' + n
      · have t1 : ((pre.length : Int) == (at' : Int) + (n : Int)) = true := by simp; omega
        have HJ := Lib.hid (show OInv w W2.heap.size w1.heap.size w3.heap.size w5.heap.size br ⟨c1, c2, c3, i1, r1, i2, r2, i3, r3⟩ ⟨ao, an, ac, bo, bn, bc⟩ ⟨ao', an', ac', bo', bn', bc'⟩ ⟨ao2, an2, ac2, bo2, bn2, bc2⟩ t u o at' n (accT o t u A0 at' (at' + n)) g pre.length W by rw [← hb]; exact HI.out)
        clear ha hb
        gi_wp2_with fail
        exact ⟨Keep2.refl _ _, rfl, g, _, HJ.out⟩
      · have t1 : ((pre.length : Int) == (at' : Int) + (n : Int)) = false := by simp; omega
        obtain ⟨k1, k2, k3, hS, hB⟩ := HI.out.fs
        obtain ⟨rr, hrr⟩ : ∃ rr, rr = sayB t u (p1, p2) := ⟨_, rfl⟩
        have hAC := accT_next (o := o) (A := A0) (at' := at') (by omega) hG1
        rw [← HP.out, ← hrr] at hAC
        have hSBR := HSBR.out.low HI.out.low (Nat.le_refl _)
        have hBB : BB t u k1 k2 k3 (p1, p2) := by rw [HP.out]; exact hB _ hG1 (Nat.le_refl _)
        have HSA := Lib.hid (saidBy1_any W2.heap.size ⟨c1, c2, c3, i1, r1, i2, r2, i3, r3⟩ _ _ _ t u W k1 k2 k3 p1 p2 hS hSBR hBB rr hrr)
        have HAC := Lib.hid hAC
        have HG1 := Lib.hid hG1
        have c6 := HI.out.ff.cell 0
        have l6 := HI.out.ff.lt
        have p0 := HRR.out.cell 0
        have p1c := HRR.out.cell 1
        have lr := HRR.out.lt
        simp only [List.getElem?_toArray, List.getElem?_cons_zero, List.getElem?_cons_succ] at c6 p0 p1c
        have HLOC := Lib.hid (show W2.heap.size ≤ W.heap.size by have := HLOW.out; have := HN.out.1; omega)
        clear hS hB hAC hSBR hBB hrr
        gi_wp2_with fail
        refine ⟨trivial, (CallsIn.inRound lp (callsIn_wide.2 HSA.out)).mono ?_⟩
        rintro e w8 ⟨k1', k2', k3', rfl, S8, B8, T8⟩
        have I8 := Lib.hid (HI.out.asked T8 HLOC.out HRUN.out HG1.out S8 (by rw [← HP.out]; exact B8))
        have K8 := Lib.hid (T8.keep2 HN.out)
        have N8 := Lib.hid (T8.nc HN.out)
        have R8 := Lib.hid (T8.blk HRR.out (by decide))
        have HG8 := Lib.hid ((T8.same g (Array.getElem?_eq_some_iff.1 HGW.out).1 (.inr fun vs f e => by rw [HGW.out] at e; injection e with e; injection e with _ e2 _; exact absurd e2 (by decide))).trans HGW.out)
        clear S8 B8 T8 c6 l6 p0 p1c lr HSA m3 n0 lm ln
        cases rr
        · rw [if_neg (by decide)] at HAC
          have o0 := I8.out.fm.cell 4
          have lo0 := I8.out.fm.lt
          simp only [List.getElem?_toArray, List.getElem?_cons_zero, List.getElem?_cons_succ] at o0
          cases o
          · rw [if_neg (by decide)] at HAC
            obtain ⟨z, hz⟩ := I8.out.fo
            have HZ8 := Lib.hid hz
            have c50 := hz.k.cell 0
            have c51 := hz.k.cell 1
            have l50 := hz.k.lt
            have p0 := R8.out.cell 0
            have p1c := R8.out.cell 1
            have lr := R8.out.lt
            simp only [List.getElem?_toArray, List.getElem?_cons_zero, List.getElem?_cons_succ] at c50 c51 p0 p1c
            obtain ⟨W9, hW9⟩ : ∃ W9, W9 = w8.alloc (.cells #[.int .u64 p1, .int .u64 p2] 53) := ⟨_, rfl⟩
            have b89 : Below w8.heap.size w8 W9 := by rw [hW9]; exact (Gr.alloc _ _).below
            have kp9 : Blk W9 w8.heap.size #[.int .u64 p1, .int .u64 p2] 53 := by rw [hW9]; exact Blk.new _ _ _
            have I9 := Lib.hid (I8.out.later b89)
            have HZ9 := Lib.hid (hz.later b89)
            have hlen9 := (HLEN.out pre.length).2
            clear hz
            gi_wp2_with (first | (gi_at_builtin; rw [← hW9]; refine wpListIn_append_pair rfl _ _ 22 rfl w.heap.size 53 i0 (.agg #[.int .u64 0, .int .u64 0]) Try.underlying22 hi hz0 hz1 hz2 rfl _ _ rfl HZ9.out.q.2 w8.heap.size (p1, p2) 53 rfl kp9 ?ha ?hb ?_) | fail)
            case ha => have := HALEN.out; have := HU4.out; omega
            case hb => exact I9.out.low.size
            intro v' w9 hO9 hg9 hat
            rw [← hW9] at hg9
            try rw [← hW9] at hat
            have s9 : W9.heap.size = w8.heap.size + 1 := by rw [hW9]; simp
            obtain ⟨o9, n9, c9, rfl⟩ := hO9.any
            have hrow := fun b hb => HZ9.out.q.2.row (b := b) hb
            have hgl9 : g < W9.heap.size := by have := b89.size; have := (Array.getElem?_eq_some_iff.1 HG8.out).1; omega
            have hne5 : (z.bv).ownBlock ≠ some w1.heap.size := HZ9.out.q.2.ne_blk HZ9.out.k (by decide)
            have k59 := HZ9.out.k.grown hg9 hne5
            have c50 := k59.cell 0
            have c51 := k59.cell 1
            have f5 := k59.frozen 1
            have l5 := k59.lt
            simp only [List.getElem?_toArray, List.getElem?_cons_zero, List.getElem?_cons_succ] at c50 c51
            have hput := I9.out.put (A' := ((accT false t u A0 at' pre.length).1, (accT false t u A0 at' pre.length).2 ++ [(p1, p2)])) (z := z) (z' := ⟨z.ao, z.an, z.ac, o9, n9, c9⟩) (j := 1) (v := .slice o9 n9 c9) hg9 hrow HZ9.out.k ⟨HZ9.out.q.1.grown hg9 (fun k hk e => HZ9.out.ab k hk e), hO9⟩ HZ9.out.ga (fun e => by rcases hat with h | h <;> rw [h] at e <;> first | exact HZ9.out.gb e | (injection e with e; omega)) (fun j hj e => by rcases hat with h | h <;> rw [h] at e <;> first | exact HZ9.out.ab j hj e | (injection e with e; have := (HZ9.out.q.1.lt j hj).2; omega)) rfl
            have HPUT := Lib.hid hput
            have hk9 : Keep2 W1.heap.size W w9 := (K8.out.trans (Keep2.of_below b89 N8.out)).trans (Keep2.of_grown hg9 (N8.out.below b89) ((N8.out.below b89).ownP HZ9.out.q.2))
            have HK9 := Lib.hid (hk9.setCell (p := ⟨w1.heap.size, 1, none⟩) ((N8.out.below b89).blk HZ9.out.k).1 ((N8.out.below b89).blk HZ9.out.k).2 (.slice o9 n9 c9))
            have HG9 := Lib.hid (show (w9.setCell ⟨w1.heap.size, 1, none⟩ (.slice o9 n9 c9)).heap[g]? = W.heap[g]? from (Below.heap_setCell _ _ _ _ (by simp; omega)).trans ((hg9.block g hgl9 (fun e => HZ9.out.gb e.symm)).trans ((b89.block g (Array.getElem?_eq_some_iff.1 HG8.out).1).trans (HG8.out.trans HGW.out.symm))))
            clear hO9 hg9 hat hrow hgl9 hput hk9 k59 hne5 kp9 b89 hW9 p0 p1c lr
            gi_wp2_with fail
            refine ⟨HK9.out, ⟨by simp; omega, ?_⟩, HG9.out⟩
            rw [List.length_append, List.length_singleton, HAC.out]
            exact HPUT.out
          · rw [if_pos rfl] at HAC
            gi_wp2_with fail
            refine ⟨K8.out, ⟨by simp; omega, ?_⟩, HG8.out.trans HGW.out.symm⟩
            rw [List.length_append, List.length_singleton, HAC.out]
            exact I8.out
        · rw [if_pos rfl] at HAC
          obtain ⟨z, hz⟩ := I8.out.fo
          have HZ8 := Lib.hid hz
          have c50 := hz.k.cell 0
          have c51 := hz.k.cell 1
          have l50 := hz.k.lt
          have p0 := R8.out.cell 0
          have p1c := R8.out.cell 1
          have lr := R8.out.lt
          simp only [List.getElem?_toArray, List.getElem?_cons_zero, List.getElem?_cons_succ] at c50 c51 p0 p1c
          obtain ⟨W9, hW9⟩ : ∃ W9, W9 = w8.alloc (.cells #[.int .u64 p1, .int .u64 p2] 53) := ⟨_, rfl⟩
          have b89 : Below w8.heap.size w8 W9 := by rw [hW9]; exact (Gr.alloc _ _).below
          have kp9 : Blk W9 w8.heap.size #[.int .u64 p1, .int .u64 p2] 53 := by rw [hW9]; exact Blk.new _ _ _
          have I9 := Lib.hid (I8.out.later b89)
          have HZ9 := Lib.hid (hz.later b89)
          have hlen9 := (HLEN.out pre.length).1
          clear hz
          gi_wp2_with (first | (gi_at_builtin; rw [← hW9]; refine wpListIn_append_pair rfl _ _ 22 rfl w.heap.size 53 i0 (.agg #[.int .u64 0, .int .u64 0]) Try.underlying22 hi hz0 hz1 hz2 rfl _ _ rfl HZ9.out.q.1 w8.heap.size (p1, p2) 53 rfl kp9 ?ha ?hb ?_) | fail)
          case ha => have := HALEN.out; have := HU4.out; omega
          case hb => exact I9.out.low.size
          intro v' w9 hO9 hg9 hat
          rw [← hW9] at hg9
          try rw [← hW9] at hat
          have s9 : W9.heap.size = w8.heap.size + 1 := by rw [hW9]; simp
          obtain ⟨o9, n9, c9, rfl⟩ := hO9.any
          have hrow := fun b hb => HZ9.out.q.1.row (b := b) hb
          have hgl9 : g < W9.heap.size := by have := b89.size; have := (Array.getElem?_eq_some_iff.1 HG8.out).1; omega
          have hne5 : (z.av).ownBlock ≠ some w1.heap.size := HZ9.out.q.1.ne_blk HZ9.out.k (by decide)
          have k59 := HZ9.out.k.grown hg9 hne5
          have c50 := k59.cell 0
          have c51 := k59.cell 1
          have f5 := k59.frozen 0
          have l5 := k59.lt
          simp only [List.getElem?_toArray, List.getElem?_cons_zero, List.getElem?_cons_succ] at c50 c51
          have hput := I9.out.put (A' := ((accT o t u A0 at' pre.length).1 ++ [(p1, p2)], (accT o t u A0 at' pre.length).2)) (z := z) (z' := ⟨o9, n9, c9, z.bo, z.bn, z.bc⟩) (j := 0) (v := .slice o9 n9 c9) hg9 hrow HZ9.out.k ⟨hO9, HZ9.out.q.2.grown hg9 (fun k hk e => HZ9.out.ab k e hk)⟩ (fun e => by rcases hat with h | h <;> rw [h] at e <;> first | exact HZ9.out.ga e | (injection e with e; omega)) HZ9.out.gb (fun j hj => by rcases hat with h | h <;> rw [h] at hj <;> first | exact HZ9.out.ab j hj | (intro e; injection hj with hj; have := (HZ9.out.q.2.lt j e).2; omega)) rfl
          have HPUT := Lib.hid hput
          have hk9 : Keep2 W1.heap.size W w9 := (K8.out.trans (Keep2.of_below b89 N8.out)).trans (Keep2.of_grown hg9 (N8.out.below b89) ((N8.out.below b89).ownP HZ9.out.q.1))
          have HK9 := Lib.hid (hk9.setCell (p := ⟨w1.heap.size, 0, none⟩) ((N8.out.below b89).blk HZ9.out.k).1 ((N8.out.below b89).blk HZ9.out.k).2 (.slice o9 n9 c9))
          have HG9 := Lib.hid (show (w9.setCell ⟨w1.heap.size, 0, none⟩ (.slice o9 n9 c9)).heap[g]? = W.heap[g]? from (Below.heap_setCell _ _ _ _ (by simp; omega)).trans ((hg9.block g hgl9 (fun e => HZ9.out.ga e.symm)).trans ((b89.block g (Array.getElem?_eq_some_iff.1 HG8.out).1).trans (HG8.out.trans HGW.out.symm))))
          clear hO9 hg9 hat hrow hgl9 hput hk9 k59 hne5 kp9 b89 hW9 p0 p1c lr
          gi_wp2_with fail
          refine ⟨HK9.out, ⟨by simp; omega, ?_⟩, HG9.out⟩
          rw [List.length_append, List.length_singleton, HAC.out]
          exact HPUT.out
  case done =>
    rintro D g ys W hS ⟨hpl, hI⟩ hD hK
    have hyl : ys.length = at' + n := by have := HK.out; have h : ys.length = (allP t u).length := hS; omega
    rw [hyl] at hI
    have hD2 : w.heap.size + 2 < D := by have := HLT5.out; omega
    obtain ⟨z, hz⟩ := hI.fo
    have HZ := Lib.hid hz
    have c50 := hz.k.cell 0
    have c51 := hz.k.cell 1
    have l50 := hz.k.lt
    simp only [List.getElem?_toArray, List.getElem?_cons_zero, List.getElem?_cons_succ] at c50 c51
    have HI := Lib.hid hI
    have HK := Lib.hid hK
    obtain ⟨zao, zan, zac, zbo, zbn, zbc⟩ := z
    have hn1 := hz.q.1.seg.len_n
    have hn2 := hz.q.2.seg.len_n
    simp only at hn1 hn2
    have HCU := Lib.hid (cutM_any ⟨zao, zan, zac, zbo, zbn, zbc⟩ W hn1.2.1 hn2.2.1)
    clear hI hK hz hn1 hn2
    gi_wp2_with fail
    refine ⟨trivial, (callsIn_wide.2 HCU.out).mono ?_⟩
    rintro e w7 ⟨rfl, b7⟩
    have kt := HI.out.ft.later b7
    have t0 := kt.cell 0
    have t1 := kt.cell 1
    have tf0 := kt.frozen 0
    have tf1 := kt.frozen 1
    have tl := kt.lt
    simp only [List.getElem?_toArray, List.getElem?_cons_zero, List.getElem?_cons_succ] at t0 t1
    have hKD : w7.heap[D]? = some (.deferred (some [])) := (b7.block D (Array.getElem?_eq_some_iff.1 HK.out).1).trans HK.out
    have HKT := Lib.hid (show Blk w7 (w.heap.size + 1 + 1) #[.slice none 0 0, .slice none 0 0] 24 from kt)
    have HQ7 := Lib.hid (show OwnQ 53 w.heap.size w7 ⟨zao, zan, zac, zbo, zbn, zbc⟩ _ from HZ.out.q.later b7)
    have HL7 := Lib.hid (below_later HI.out.low b7)
    have HKD := Lib.hid hKD
    clear kt b7 hKD c50 c51 l50
    gi_wp2_with fail
    have kf := HKT.out.setT (u := .slice zao zan zan) (v := .slice zbo zbn zbn)
    have hA := HQ7.out.1.otherB2 HKT.out (by decide) 0 1 (.slice zao zan zan) (.slice zbo zbn zbn)
    have hB := HQ7.out.2.otherB2 HKT.out (by decide) 0 1 (.slice zao zan zan) (.slice zbo zbn zbn)
    have hL := (HL7.out.setCell (p := ⟨w.heap.size + 1 + 1, 0, none⟩) (by simp; omega) (.slice zao zan zan)).setCell (p := ⟨w.heap.size + 1 + 1, 1, none⟩) (by simp; omega) (.slice zbo zbn zbn)
    have hKf : ((w7.setCell ⟨w.heap.size + 1 + 1, 0, none⟩ (.slice zao zan zan)).setCell ⟨w.heap.size + 1 + 1, 1, none⟩ (.slice zbo zbn zbn)).heap[D]? = some (.deferred (some [])) :=
      ((Below.heap_setCell _ _ _ _ (by simp; omega)).trans (Below.heap_setCell _ _ _ _ (by simp; omega))).trans HKD.out
    obtain ⟨Wf, hWf⟩ : ∃ Wf, Wf = (w7.setCell ⟨w.heap.size + 1 + 1, 0, none⟩ (.slice zao zan zan)).setCell ⟨w.heap.size + 1 + 1, 1, none⟩ (.slice zbo zbn zbn) := ⟨_, rfl⟩
    rw [← hWf] at kf hA hB hL hKf
    rw [← hWf]
    refine ⟨by simp, .inl ⟨_, _, rfl, run_takeDeferred hKf, ?_⟩⟩
    have r6 := (kf.putObj (.deferred none) hKf).cell 0
    have r7 := (kf.putObj (.deferred none) hKf).cell 1
    simp at r6 r7
    refine ⟨.agg #[.slice zao zan zan, .slice zbo zbn zbn], by simp [results, Try.results78, go_sem, r6, r7], ⟨zao, zan, zan, zbo, zbn, zbn⟩, rfl, ⟨(hA.putD (.deferred none) hKf).cut, (hB.putD (.deferred none) hKf).cut⟩, hL.trans (below_put' Wf _ (by omega))⟩
  case stop =>
    rintro D c' pre W _ ⟨rfl, g, k, hI⟩ hD hK
    have hD2 : w.heap.size + 2 < D := by have := HLT5.out; omega
    obtain ⟨z, hz⟩ := hI.fo
    have HZ := Lib.hid hz
    have c50 := hz.k.cell 0
    have c51 := hz.k.cell 1
    have l50 := hz.k.lt
    simp only [List.getElem?_toArray, List.getElem?_cons_zero, List.getElem?_cons_succ] at c50 c51
    have HI := Lib.hid hI
    have HK := Lib.hid hK
    obtain ⟨zao, zan, zac, zbo, zbn, zbc⟩ := z
    have hn1 := hz.q.1.seg.len_n
    have hn2 := hz.q.2.seg.len_n
    simp only at hn1 hn2
    have HCU := Lib.hid (cutM_any ⟨zao, zan, zac, zbo, zbn, zbc⟩ W hn1.2.1 hn2.2.1)
    clear hI hK hz hn1 hn2
    gi_wp2_with fail
    refine ⟨trivial, (callsIn_wide.2 HCU.out).mono ?_⟩
    rintro e w7 ⟨rfl, b7⟩
    have kt := HI.out.ft.later b7
    have t0 := kt.cell 0
    have t1 := kt.cell 1
    have tf0 := kt.frozen 0
    have tf1 := kt.frozen 1
    have tl := kt.lt
    simp only [List.getElem?_toArray, List.getElem?_cons_zero, List.getElem?_cons_succ] at t0 t1
    have hKD : w7.heap[D]? = some (.deferred (some [])) := (b7.block D (Array.getElem?_eq_some_iff.1 HK.out).1).trans HK.out
    have HKT := Lib.hid (show Blk w7 (w.heap.size + 1 + 1) #[.slice none 0 0, .slice none 0 0] 24 from kt)
    have HQ7 := Lib.hid (show OwnQ 53 w.heap.size w7 ⟨zao, zan, zac, zbo, zbn, zbc⟩ _ from HZ.out.q.later b7)
    have HL7 := Lib.hid (below_later HI.out.low b7)
    have HKD := Lib.hid hKD
    clear kt b7 hKD c50 c51 l50
    gi_wp2_with fail
    have kf := HKT.out.setT (u := .slice zao zan zan) (v := .slice zbo zbn zbn)
    have hA := HQ7.out.1.otherB2 HKT.out (by decide) 0 1 (.slice zao zan zan) (.slice zbo zbn zbn)
    have hB := HQ7.out.2.otherB2 HKT.out (by decide) 0 1 (.slice zao zan zan) (.slice zbo zbn zbn)
    have hL := (HL7.out.setCell (p := ⟨w.heap.size + 1 + 1, 0, none⟩) (by simp; omega) (.slice zao zan zan)).setCell (p := ⟨w.heap.size + 1 + 1, 1, none⟩) (by simp; omega) (.slice zbo zbn zbn)
    have hKf : ((w7.setCell ⟨w.heap.size + 1 + 1, 0, none⟩ (.slice zao zan zan)).setCell ⟨w.heap.size + 1 + 1, 1, none⟩ (.slice zbo zbn zbn)).heap[D]? = some (.deferred (some [])) :=
      ((Below.heap_setCell _ _ _ _ (by simp; omega)).trans (Below.heap_setCell _ _ _ _ (by simp; omega))).trans HKD.out
    obtain ⟨Wf, hWf⟩ : ∃ Wf, Wf = (w7.setCell ⟨w.heap.size + 1 + 1, 0, none⟩ (.slice zao zan zan)).setCell ⟨w.heap.size + 1 + 1, 1, none⟩ (.slice zbo zbn zbn) := ⟨_, rfl⟩
    rw [← hWf] at kf hA hB hL hKf
    rw [← hWf]
    refine ⟨by simp, .inl ⟨_, _, rfl, run_takeDeferred hKf, ?_⟩⟩
    have r6 := (kf.putObj (.deferred none) hKf).cell 0
    have r7 := (kf.putObj (.deferred none) hKf).cell 1
    simp at r6 r7
    refine ⟨.agg #[.slice zao zan zan, .slice zbo zbn zbn], by simp [results, Try.results78, go_sem, r6, r7], ⟨zao, zan, zan, zbo, zbn, zbn⟩, rfl, ⟨(hA.putD (.deferred none) hKf).cut, (hB.putD (.deferred none) hKf).cut⟩, hL.trans (below_put' Wf _ (by omega))⟩
theorem outB_any (x y z : Ti) (t u A0 : Tr) (o : Bool) (at' n : Nat) (w : World) (h1 : TR w x t) (h2 : TR w y u) (h3 : TR w z A0) (ht : oneT t) (hu : oneT u)
    (hl : (t.1.length ≤ 1000 ∧ t.2.length ≤ 1000) ∧ (u.1.length ≤ 1000 ∧ u.2.length ≤ 1000)) (hA : A0.1.length ≤ 100000 ∧ A0.2.length ≤ 100000) (hk : at' + n ≤ (allP t u).length) :
    Calls Try.prog 78 #[.agg (mgV x y z o at'), .int .i64 (n : Int)] w fun e w' => ∃ z' : Ti, e = .returned (.agg #[z'.av, z'.bv]) ∧ OwnD 53 w.heap.size w' z' (accT o t u A0 at' (at' + n)) ∧ Below w.heap.size w w' :=
  (callsIn_wide (n := 6)).1 (outB_in x y z t u A0 o at' n w h1 h2 h3 ht hu hl hA hk)
end Go.Proofs.Ytlhigfphfbmbjaa

