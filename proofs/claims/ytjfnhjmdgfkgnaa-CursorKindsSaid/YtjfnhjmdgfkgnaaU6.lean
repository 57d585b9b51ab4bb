/- trie.laid: the trie of a run. -/
import Derived.Test.YtjfnhjmdgfkgnaaU5
import Derived.Deep.DeepCutAuto
namespace Go.Proofs.Kit
open Go.RowKit
theorem bof_step {l : List Pr} (hr : Run l) {k : Nat} (hk : k < l.length) :
    (k = 0 ∧ bof (l.take k) = [] ∧ bof (l.take (k + 1)) = [(l[k].1, (k : Int), (k : Int) + 1)]) ∨
    (∃ (C : List Br) (kk f t : Int), bof (l.take k) = C ++ [(kk, f, t)] ∧ kk ≠ l[k].1 ∧ bof (l.take (k + 1)) = (C ++ [(kk, f, t)]) ++ [(l[k].1, (k : Int), (k : Int) + 1)]) ∨
    (∃ (C : List Br) (f t : Int), bof (l.take k) = C ++ [(l[k].1, f, t)] ∧ bof (l.take (k + 1)) = C ++ [(l[k].1, f, (k : Int) + 1)]) := by
  have hlen : (l.take k).length = k := by rw [List.length_take]; omega
  have e1 : l.take (k + 1) = l.take k ++ [l[k]] := List.take_succ_eq_append_getElem hk
  by_cases h0 : k = 0
  · subst h0
    refine .inl ⟨rfl, rfl, ?_⟩
    rw [e1]
    have := bof_new (T := l.take 0) (p := l[0]) (by simp)
    rw [this]
    simp [bof_nil]
  · have hT : Run (l.take k) := hr.sub (List.take_sublist _ _)
    have hmem : ∀ x ∈ l.take k, ∃ (i : Nat) (hi : i < k) (hi' : i < l.length), l[i] = x := by
      intro x hx
      obtain ⟨i, hi, rfl⟩ := List.getElem_of_mem hx
      rw [hlen] at hi
      exact ⟨i, hi, by omega, by rw [List.getElem_take]⟩
    have hle : ∀ x ∈ l.take k, x.1 ≤ (l[k - 1]'(by omega)).1 := by
      intro x hx
      obtain ⟨i, hi, hi', rfl⟩ := hmem x hx
      exact run_key hr hi' (by omega) (by omega)
    have hin : l[k - 1]'(by omega) ∈ l.take k := by
      rw [List.mem_take_iff_getElem]
      exact ⟨k - 1, by omega, rfl⟩
    have hkk := run_key hr (i := k - 1) (j := k) (by omega) hk (by omega)
    by_cases e : (l[k - 1]'(by omega)).1 = l[k].1
    · obtain ⟨C, f, t, h1, h2⟩ := bof_more (T := l.take k) (p := l[k]) hT (fun x hx => by have := hle x hx; omega) ⟨_, hin, e⟩
      rw [← e1, hlen] at h2
      exact .inr (.inr ⟨C, f, t, h1, h2⟩)
    · have es := run_last hT hle
      obtain ⟨M, hM⟩ : ∃ M, M = ((l.take k).filter fun x => decide (x.1 = (l[k - 1]'(by omega)).1)).map (·.2) := ⟨_, rfl⟩
      obtain ⟨A, hA⟩ : ∃ A, A = (l.take k).filter (fun x => decide (x.1 < (l[k - 1]'(by omega)).1)) := ⟨_, rfl⟩
      rw [← hM, ← hA] at es
      have hM0 : M ≠ [] := by
        rw [hM]
        intro e0
        have : (l[k - 1]'(by omega)) ∈ (l.take k).filter fun x => decide (x.1 = (l[k - 1]'(by omega)).1) := List.mem_filter.2 ⟨hin, by simp⟩
        rw [List.map_eq_nil_iff.1 e0] at this
        simp at this
      have hAk : ∀ x ∈ A, x.1 < (l[k - 1]'(by omega)).1 := by
        intro x hx
        rw [hA] at hx
        simpa using (List.mem_filter.1 hx).2
      have h1 : bof (l.take k) = _ := (congrArg bof es).trans (bof_block hM0 hAk)
      have h2 := bof_new (T := l.take k) (p := l[k]) (fun x hx => by have := hle x hx; omega)
      rw [← e1, hlen, h1] at h2
      exact .inr (.inl ⟨_, _, _, _, h1, e, h2⟩)
theorem set_last (C : List Br) (a b c x : Int) (h : C.length < (C ++ [(a, b, c)]).length) : (C ++ [(a, b, c)]).set C.length ((C ++ [(a, b, c)])[C.length].1, (C ++ [(a, b, c)])[C.length].2.1, x) = C ++ [(a, b, x)] := by
  simp
theorem OwnR.upto {t : TypeId} {B : Nat} {w : World} {o : Option Addr} {n c : Nat} {l : List Br} (h : OwnR t B w (.slice o n c) l) : l.length = n := by
  obtain ⟨o', c', e⟩ := h.shape
  injection e with _ e _
  exact e.symm
theorem But.above {r : Nat} {w w1 : World} (h : But r w w1) {g : Nat} (hg : w.heap.size ≤ g) (i : Nat) (u : Value) : But r w (w1.setCell ⟨g, i, none⟩ u) :=
  ⟨h.os, h.tape, h.output, by simpa using h.size, fun k hk hs => (Below.heap_setCell _ _ _ _ (by simp; omega)).trans (h.same k hk hs)⟩
theorem But.segP {r : Nat} {w w' : World} {v : Value} {l : List Pr} (h : But r w w') (hs : SegP w v l) (hr : ∀ b, v.ownBlock = some b → b ≠ r) : SegP w' v l := by
  refine ⟨hs.1, ?_⟩
  rcases hs.2 with hs | ⟨b, off, cap, rfl, h2, h3, h4, h5⟩
  · exact .inl hs
  · refine .inr ⟨b, off, cap, rfl, h2, h3, Nat.lt_of_lt_of_le h4 h.size, fun i hi => ?_⟩
    have hb := h.same b (hr b rfl) h4
    exact ⟨(World.cell?_of_block (a := ⟨b, off + i * 2, none⟩) hb).trans (h5 i hi).1, (World.cell?_of_block (a := ⟨b, off + i * 2 + 1, none⟩) hb).trans (h5 i hi).2⟩
end Go.Proofs.Kit
namespace Go.Proofs.Ytjfnhjmdgfkgnaa
open Go.RowKit Go.Proofs.Kit
set_option maxRecDepth 100000 in
set_option maxHeartbeats 8000000 in
theorem laid_any (v : Value) (l : List Pr) (w : World) (hs : SegP w v l) (hr : Run l) (hn : l.length ≤ 1000000) :
    Calls Try.prog 58 #[v] w fun e w' => ∃ vb vl, e = .returned (.agg #[vb, vl]) ∧ OwnR 68 w.heap.size w' vb (bof l) ∧ Owns .u64 32 w.heap.size w' vl (l.map (·.2)) ∧ Below w.heap.size w w' := by
  obtain ⟨i0, hi, hz0, hz1, hz2⟩ := infou
  obtain ⟨j0, hj, jz0, jz1, jz2⟩ := infoB
  obtain ⟨o, c, rfl, hc, hcm, hsh⟩ := hs.shape
  obtain ⟨n, hnl⟩ : ∃ n, n = l.length := ⟨_, rfl⟩
  rw [← hnl] at hn hs hc ⊢
  have HS := Lib.hid hs
  have HN := Lib.hid hnl
  have HSH := Lib.hid hsh
  have HR := Lib.hid hr
  have hmix := mixed
  clear hs hnl hr hsh
  go_enter Try.func58, Try.ntmps58
  go_wp2_with (refine wpList_make_own _ rfl _ _ _ rfl (w.heap.size + 1) 32 i0 (.int .u64 0) 1 Try.underlying23 hi hz0 hz1 .i64 .i64 _ n rfl rfl rfl ?ma ?mb ?mc ?_)
  case ma => rw [hz2]; omega
  case mb => unfold maxLen; omega
  case mc => simp
  intro w1 ho1 hg1
  have hb1 : Below (w.heap.size + 1) (w.alloc (.cells #[.slice none 0 0, .slice none 0 0] 25)) w1 := (Below.refl _ _).grown hg1 (by simp) (fun _ h => by cases h)
  have f2 : Blk w1 w.heap.size #[.slice none 0 0, .slice none 0 0] 25 := (Blk.new _ _ _).below hb1 (by omega)
  have lo1 : Below w.heap.size w w1 := ((Below.refl _ _).alloc (Nat.le_refl _) _).trans (hb1.mono (by omega))
  have hO1 : Owns .u64 32 (w.heap.size + 1) w1 _ [] := ho1
  have hs1 := fun W (h : Below (w.heap.size + 1) w1 W) => HS.out.below (lo1.trans (h.mono (by omega))) (Nat.le_refl _)
  have HG := Lib.hid (gathPu_any (w.heap.size + 1) _ [] (.slice o n c) l w1 hO1 f2.lt hs1 (by have := HN.out; simp; omega))
  have F2 := Lib.hid f2
  have LO1 := Lib.hid lo1
  clear ho1 hg1 hb1 hO1 hs1 f2 lo1
  go_wp2_with fail
  refine HG.out.mono ?_
  rintro e w2 ⟨vl, rfl, hO2, hb2⟩
  rw [List.nil_append] at hO2
  obtain ⟨ol, cl, rfl⟩ : ∃ ol cl, vl = .slice ol n cl := by
    obtain ⟨a, b, rfl⟩ := hO2.shape
    exact ⟨a, b, by rw [List.length_map, ← HN.out]⟩
  have F2' := Lib.hid (F2.out.below hb2 (by omega))
  have LO2 := Lib.hid (LO1.out.trans (hb2.mono (by omega)))
  have HO2 := Lib.hid hO2
  clear hO2 hb2 HG F2 LO1
  go_wp2
  obtain ⟨W1, hW1⟩ : ∃ W1, W1 = w2.alloc (.cells #[.slice none 0 0, (.slice ol n cl)] 25) := ⟨_, rfl⟩
  have bo : Blk W1 w2.heap.size #[.slice none 0 0, (.slice ol n cl)] 25 := by rw [hW1]; exact Blk.new _ _ _
  have gw : Gr w2 W1 := by rw [hW1]; exact Gr.alloc _ _
  have gs : W1.heap.size = w2.heap.size + 1 := by rw [hW1]; simp
  rw [← hW1]
  clear hW1
  have HBO := Lib.hid bo
  have F3 := Lib.hid (F2'.out.later gw.below)
  have HO3 := Lib.hid (HO2.out.later gw.below)
  have LO3 := Lib.hid (LO2.out.trans (gw.below.mono LO2.out.size))
  have GS := Lib.hid gs
  have HFL := Lib.hid (show w.heap.size < w2.heap.size from F2'.out.lt)
  have HS3 := Lib.hid (HS.out.below LO3.out (Nat.le_refl _))
  clear gw bo gs F2' HO2 LO2
  go_loopw [15] (fun i wr => ∃ k : Nat, k ≤ n ∧ i = .int .i64 (k : Int) ∧ Hid (∃ ob cb, Blk wr w2.heap.size #[.slice ob (bof (l.take k)).length cb, (.slice ol n cl)] 25 ∧ OwnR 68 W1.heap.size wr (.slice ob (bof (l.take k)).length cb) (bof (l.take k))) ∧ Hid (But w2.heap.size W1 wr)) (fun i _ => n - (intOf i).toNat)
  case atStart => exact ⟨0, by omega, rfl, Lib.hid ⟨none, 0, HBO.out, OwnR.nil _ _ _⟩, Lib.hid (But.refl _ _)⟩
  case round =>
    obtain ⟨k, hk, rfl, HOB, HBT⟩ := hrel
    obtain ⟨ob, cb, hbo, hown⟩ := HOB.out
    have hsz := HBT.out.size
    have hgs : w2.heap.size < W1.heap.size := by have := GS.out; omega
    have c1 := hbo.cell 0
    have c2 := hbo.cell 1
    have z1 := hbo.frozen 0
    have lbo := hbo.lt
    simp only [List.getElem?_toArray, List.getElem?_cons_zero, List.getElem?_cons_succ] at c1 c2
    by_cases hlt : k < n
    · have hkl : k < l.length := by have := HN.out; omega
      have hsr : SegP wr (.slice o n c) l := HBT.out.segP HS3.out (fun b hb => by
        rcases HS.out.2 with ⟨e, _⟩ | ⟨b', f', c', e, _, _, hlt', _⟩
        · rw [e] at hb; cases hb
        · rw [e] at hb
          have hb' : b' = b := by simpa [Value.ownBlock] using hb
          have := HFL.out
          omega)
      obtain ⟨b, f, rfl, hbl, hcells⟩ := hsr.has hkl
      obtain ⟨d1, d2⟩ := hcells k hkl
      have hstep := bof_step HR.out hkl
      obtain ⟨x, hx⟩ : ∃ x, x = l[k] := ⟨_, rfl⟩
      rw [← hx] at d1 d2 hstep
      obtain ⟨p1, p2⟩ := x
      simp only at d1 d2 hstep
      obtain ⟨T, hT⟩ : ∃ T, T = bof (l.take k) := ⟨_, rfl⟩
      obtain ⟨T', hT'⟩ : ∃ T', T' = bof (l.take (k + 1)) := ⟨_, rfl⟩
      rw [← hT, ← hT'] at hstep
      rw [← hT] at hown hbo c1
      have HT' := Lib.hid hT'
      have hTl : T.length ≤ 1000000 := by
        rw [hT]
        have := bof_le (l.take k)
        rw [List.length_take] at this
        omega
      clear hcells hsr hx hT hT'
      have g1 : (k : Int) < (n : Int) := by omega
      rcases hstep with ⟨h0, hTn, hT2⟩ | ⟨C, kk, f', t', hTn, hne, hT2⟩ | ⟨C, f', t', hTn, hT2⟩
      · subst hTn
        subst hT2
        have HOW := Lib.hid hown
        have HBO2 := Lib.hid hbo
        clear hown hbo h0
        simp only [List.length_nil] at c1
        go_wp2
        go_quiet (fail)
        have HO2 := Lib.hid (((HOW.out.alloc (.cells #[.int .u64 p1, .int .u64 p2] 83)).drewN nq).alloc (.cells #[.int .u64 p1, .int .i64 (k : Int), .int .i64 0] 68))
        have HSG := Lib.hid (SegR.one (w := (wr.alloc (.cells #[.int .u64 p1, .int .u64 p2] 83)).drewN nq) (t := 68) p1 (k : Int) 0)
        simp only [World.heap_drewN, World.size_alloc] at HSG
        go_wp2_with (at_builtin; refine wpList_append_segR rfl _ _ 22 rfl W1.heap.size 68 j0 (.agg #[.int .u64 0, .int .i64 0, .int .i64 0]) Try.underlying22 hj jz0 jz1 jz2 rfl _ _ rfl HO2.out _ [(p1, (k : Int), 0)] rfl HSG.out ?qa ?qc ?_)
        case qa => simp
        case qc => simp; omega
        intro v3 w3 hO3 hb3 _ _
        obtain ⟨o3, c3, rfl⟩ : ∃ o3 c3, v3 = .slice o3 1 c3 := hO3.shape
        have hbo3 : Blk w3 w2.heap.size #[.slice ob 0 cb, .slice ol n cl] 25 := (((HBO2.out.alloc _).drewN nq).alloc _).below hb3 (by omega)
        have but3 := ((((HBT.out.alloc (.cells #[.int .u64 p1, .int .u64 p2] 83)).drewN nq).alloc (.cells #[.int .u64 p1, .int .i64 (k : Int), .int .i64 0] 68)).low hb3 (Nat.le_refl _)).set 0 (.slice o3 1 c3)
        have own3 := hO3.other (hO3.ne_blk hbo3 (by decide)) 0 (.slice o3 1 c3)
        have hbo4 := hbo3.set 0 (.slice o3 1 c3)
        have c1' := hbo3.cell 0
        have z1' := hbo3.frozen 0
        have lbo' := hbo3.lt
        simp only [List.getElem?_toArray, List.getElem?_cons_zero] at c1'
        have HBUT := Lib.hid but3
        have HOW3 := Lib.hid own3
        have HBO4 := Lib.hid hbo4
        clear hO3 hb3 hbo3 but3 own3 hbo4 HO2 HSG HOW HBO2 c1 c2 z1 lbo d1 d2 hbl
        go_upto_region 8 with (fail)
        obtain ⟨W4, hW4⟩ : ∃ W4, W4 = w3.setCell ⟨w2.heap.size, 0, none⟩ (.slice o3 1 c3) := ⟨_, rfl⟩
        rw [← hW4] at HBUT HOW3 HBO4 ⊢
        clear hW4 c1' z1' lbo'
        obtain ⟨g, rfl, -, _, _, hgB, hgl, hcs, hfz, own5⟩ := HOW3.out.set (i := 0) (by simp) ((k : Int) + 1)
        have d3 := (hcs 0 (by simp)).2.2
        have z3 := hfz 2
        simp only [Nat.zero_mul, Nat.zero_add] at own5 d3
        have c1 := HBO4.out.cell 0
        have lbo := HBO4.out.lt
        simp at c1
        have HO5 := Lib.hid own5
        clear own5 hcs hfz
        go_wp2
        go_roundw
        case rel =>
          refine ⟨k + 1, by omega, by go_num, Lib.hid ⟨some ⟨g, 0, none⟩, c3, ?_⟩, Lib.hid (HBUT.out.above hgB 2 _)⟩
          rw [← HT'.out]
          refine ⟨?_, HO5.out⟩
          have := HBO4.out.other (p := ⟨g, 2, none⟩) (by simp; omega) (.int .i64 ((k : Int) + 1))
          simpa using this
        case measure => simp [intOf]; omega
      · have hm1 : T.length = C.length + 1 := by rw [hTn]; simp
        obtain ⟨m, hm⟩ : ∃ m, m = T.length := ⟨_, rfl⟩
        obtain ⟨q, hq⟩ : ∃ q, q = C.length := ⟨_, rfl⟩
        obtain ⟨b2, f2, rfl, _, hmc, hcc, hb2, hcells⟩ := hown.seg.has (i := q) (by rw [hm1, hq]; omega)
        have d3 := (hcells q (by rw [hm1, hq]; omega)).1
        have hTq : T[q]'(by rw [hm1, hq]; omega) = (kk, f', t') := by subst hTn; subst hq; simp
        rw [hTq] at d3
        simp only at d3
        rw [← hm] at c1 hmc
        have HOW := Lib.hid hown
        have HBO2 := Lib.hid hbo
        have HT2 := Lib.hid hT2
        have HTN := Lib.hid hTn
        have HM := Lib.hid hm
        have hq1 : (m : Int) - 1 = (q : Int) := by omega
        have hq2 : (q : Int) + 1 = (m : Int) := by omega
        have hqm : q < m := by omega
        have hml : m ≤ 1000000 := by omega
        have hqi : (q : Int) < (m : Int) := by omega
        have e0 : decide ((q : Int) < 0) = false := by simp
        have e1 : (kk != p1) = true := by simpa using hne
        clear hown hbo hT2 hTn hm hq hm1 hcells hTq hTl hne
        go_wp2
        go_quiet (fail)
        have HO2 := Lib.hid (((HOW.out.alloc (.cells #[.int .u64 p1, .int .u64 p2] 83)).drewN nq).alloc (.cells #[.int .u64 p1, .int .i64 (k : Int), .int .i64 0] 68))
        have HSG := Lib.hid (SegR.one (w := (wr.alloc (.cells #[.int .u64 p1, .int .u64 p2] 83)).drewN nq) (t := 68) p1 (k : Int) 0)
        simp only [World.heap_drewN, World.size_alloc] at HSG
        rw [← HM.out] at HO2
        go_wp2_with (at_builtin; refine wpList_append_segR rfl _ _ 22 rfl W1.heap.size 68 j0 (.agg #[.int .u64 0, .int .i64 0, .int .i64 0]) Try.underlying22 hj jz0 jz1 jz2 rfl _ _ rfl HO2.out _ [(p1, (k : Int), 0)] rfl HSG.out ?ra ?rc ?_)
        case ra => have := HM.out; simp; omega
        case rc => simp; omega
        intro v3 w3 hO3 hb3 _ _
        obtain ⟨o3, c3, rfl⟩ : ∃ o3 c3, v3 = .slice o3 (m + 1) c3 := by
          obtain ⟨a, b, e⟩ := hO3.shape
          exact ⟨a, b, by rw [e, List.length_append, ← HM.out]; rfl⟩
        have hbo3 : Blk w3 w2.heap.size #[.slice (some ⟨b2, f2, none⟩) m cb, .slice ol n cl] 25 := by
          have := (((HBO2.out.alloc (.cells #[.int .u64 p1, .int .u64 p2] 83)).drewN nq).alloc (.cells #[.int .u64 p1, .int .i64 (k : Int), .int .i64 0] 68)).below hb3 (by omega)
          rwa [← HM.out] at this
        have but3 := ((((HBT.out.alloc (.cells #[.int .u64 p1, .int .u64 p2] 83)).drewN nq).alloc (.cells #[.int .u64 p1, .int .i64 (k : Int), .int .i64 0] 68)).low hb3 (Nat.le_refl _)).set 0 (.slice o3 (m + 1) c3)
        have own3 := hO3.other (hO3.ne_blk hbo3 (by decide)) 0 (.slice o3 (m + 1) c3)
        have hbo4 := hbo3.set 0 (.slice o3 (m + 1) c3)
        have c1' := hbo3.cell 0
        have z1' := hbo3.frozen 0
        have lbo' := hbo3.lt
        simp only [List.getElem?_toArray, List.getElem?_cons_zero] at c1'
        have HBUT := Lib.hid but3
        have HOW3 := Lib.hid own3
        have HBO4 := Lib.hid hbo4
        clear hO3 hb3 hbo3 but3 own3 hbo4 HO2 HSG HOW HBO2 c1 c2 z1 lbo d1 d2 d3 hbl hb2 hmc hcc e0 hq1
        go_upto_region 8 with (fail)
        obtain ⟨W4, hW4⟩ : ∃ W4, W4 = w3.setCell ⟨w2.heap.size, 0, none⟩ (.slice o3 (m + 1) c3) := ⟨_, rfl⟩
        rw [← hW4] at HBUT HOW3 HBO4 ⊢
        clear hW4 c1' z1' lbo'
        have hml2 : m < (T ++ [(p1, (k : Int), 0)]).length := by have := HM.out; simp; omega
        obtain ⟨g, rfl, -, hmc, hcc, hgB, hgl, hcs, hfz, own5⟩ := HOW3.out.set (i := m) hml2 ((k : Int) + 1)
        have e4 : (T ++ [(p1, (k : Int), 0)]).set m ((T ++ [(p1, (k : Int), 0)])[m].1, (T ++ [(p1, (k : Int), 0)])[m].2.1, (k : Int) + 1) = T ++ [(p1, (k : Int), (k : Int) + 1)] := by
          have := HM.out
          subst this
          exact set_last T p1 k 0 _ hml2
        rw [e4] at own5
        obtain ⟨y3, d3⟩ : ∃ y, W4.cell? ⟨g, m * 3 + 2, none⟩ = some y := ⟨_, by have := (hcs m hml2).2.2; rwa [Nat.zero_add] at this⟩
        have z3 := hfz (m * 3 + 2)
        have c1 := HBO4.out.cell 0
        have lbo := HBO4.out.lt
        simp at c1
        have HO5 := Lib.hid own5
        clear own5 hcs hfz e4 hml2
        have hmi : (m : Int) < (m : Int) + 1 := by omega
        go_wp2
        go_roundw
        case rel =>
          refine ⟨k + 1, by omega, by go_num, Lib.hid ⟨some ⟨g, 0, none⟩, c3, ?_⟩, Lib.hid (HBUT.out.above hgB (m * 3 + 2) _)⟩
          rw [← HT'.out, HT2.out, ← HTN.out, List.length_append, ← HM.out]
          refine ⟨?_, HO5.out⟩
          have := HBO4.out.other (p := ⟨g, m * 3 + 2, none⟩) (by simp; omega) (.int .i64 ((k : Int) + 1))
          simpa using this
        case measure => simp [intOf]; omega
      · have hm1 : T.length = C.length + 1 := by rw [hTn]; simp
        obtain ⟨m, hm⟩ : ∃ m, m = T.length := ⟨_, rfl⟩
        obtain ⟨q, hq⟩ : ∃ q, q = C.length := ⟨_, rfl⟩
        have hqT : q < T.length := by rw [hm1, hq]; omega
        have hTq : T[q] = (p1, f', t') := by subst hTn; subst hq; simp
        have hown2 := (hown.alloc (.cells #[.int .u64 p1, .int .u64 p2] 83))
        have hss : T.set q (T[q].1, T[q].2.1, (k : Int) + 1) = C ++ [(p1, f', (k : Int) + 1)] := by subst hTn; subst hq; exact set_last C p1 f' t' _ hqT
        have HOW := Lib.hid (fun nq => by have := (hown2.drewN nq).set hqT ((k : Int) + 1); rw [hss] at this; exact this)
        have hml' : m = (C ++ [(p1, f', (k : Int) + 1)]).length := by rw [hm, hm1]; simp
        have HML := Lib.hid hml'
        obtain ⟨g, rfl, -, hmc, hcc, hgB, hgl, hcs, hfz, -⟩ := hown.set hqT 0
        have d3 := (hcs q hqT).1
        have d4 := (hcs q hqT).2.2
        have z3 := hfz (q * 3 + 2)
        rw [hTq] at d3 d4
        simp only [Nat.zero_add] at d3 d4
        rw [← hm] at c1 hmc
        have HBO2 := Lib.hid hbo
        have HT2 := Lib.hid hT2
        have HM := Lib.hid hm
        have hq1 : (m : Int) - 1 = (q : Int) := by omega
        have hqm : q < m := by omega
        have hqi : (q : Int) < (m : Int) := by omega
        have e0 : decide ((q : Int) < 0) = false := by simp
        clear hown hown2 hbo hT2 hTn hm hq hm1 hcs hfz hTq hTl hss hqT hml'
        go_wp2
        go_quiet (fail)
        go_wp2
        go_roundw
        case rel =>
          refine ⟨k + 1, by omega, by go_num, Lib.hid ⟨some ⟨g, 0, none⟩, cb, ?_⟩, Lib.hid (((HBT.out.alloc (.cells #[.int .u64 p1, .int .u64 p2] 83)).drewN nq).above hgB (q * 3 + 2) _)⟩
          rw [← HT'.out, HT2.out, ← HML.out]
          obtain ⟨g', e, _, _, _, _, _, _, _, own5⟩ := HOW.out nq
          injection e with e
          injection e with e _ _
          subst e
          rw [← HM.out] at own5
          refine ⟨?_, own5⟩
          have hb2 := HBO2.out
          rw [← HM.out] at hb2
          exact ((hb2.alloc (.cells #[.int .u64 p1, .int .u64 p2] 83)).drewN nq).other (p := ⟨g, q * 3 + 2, none⟩) (by simp; omega) (.int .i64 ((k : Int) + 1))
        case measure => simp [intOf]; omega
    · have hfull : l.take k = l := List.take_of_length_le (by have := HN.out; omega)
      rw [hfull] at hown hbo c1
      have HF3 := Lib.hid (show Blk wr w.heap.size #[.slice none 0 0, .slice none 0 0] 25 from HBT.out.blk F3.out (by have := HFL.out; omega))
      have HLV := Lib.hid (show Owns .u64 32 w.heap.size wr (.slice ol n cl) (l.map (·.2)) from (HO3.out.mono (by omega)).same fun g hg => HBT.out.same g (by
        rintro rfl
        exact (HO3.out.ne_blk (HBO.out) (by decide)) hg) (HO3.out.lt g hg).2)
      have hbl : (bof l).length ≤ 1000000 := by have := bof_le l; have := HN.out; omega
      have LO4 := Lib.hid (show Below w.heap.size w wr from LO3.out.trans (HBT.out.below (by have := HFL.out; omega) LO3.out.size))
      obtain ⟨m, hm⟩ : ∃ m, m = (bof l).length := ⟨_, rfl⟩
      rw [← hm] at c1 hbl hown hbo
      have HOW := Lib.hid hown
      have HBO2 := Lib.hid hbo
      obtain ⟨k1, k2, lw⟩ := HF3.out.two
      have z3 := HF3.out.frozen 0
      have z4 := HF3.out.frozen 1
      have hF := (HF3.out.set 0 (.slice ob m cb)).set 1 (.slice ol n cl)
      have r1 := hF.cell 0
      have r2 := hF.cell 1
      simp at r1 r2
      have HRR := Lib.hid (And.intro r1 r2)
      clear hown hbo hfull hm hF r1 r2
      go_wp2
      have r1 := HRR.out.1
      have r2 := HRR.out.2
      refine bodyPost_ret (v := .agg #[.slice ob m cb, .slice ol n cl]) (by simp [results, Try.results58, go_sem, r1, r2]) rfl ⟨_, _, rfl, ?_, ?_, ?_⟩
      · exact (((HOW.out.mono (by have := LO4.out.size; have := HFL.out; omega)).other (HOW.out.ne_blk HF3.out (by decide)) 0 _).other (HOW.out.ne_blk HF3.out (by decide)) 1 _)
      · exact HLV.out.same fun g hg => (Below.heap_setCell _ _ _ _ (fun e => (HLV.out.ne_blk HF3.out (by decide)) (by rw [hg]; exact congrArg some e))).trans (Below.heap_setCell _ _ _ _ (fun e => (HLV.out.ne_blk HF3.out (by decide)) (by rw [hg]; exact congrArg some e)))
      · exact (LO4.out.setCell (by simp) _).setCell (by simp) _
end Go.Proofs.Ytjfnhjmdgfkgnaa

