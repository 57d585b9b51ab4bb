/- run.combine; Union, Minus, Meet. -/
import Derived.Test.YtlhigfphfbmbjaaN12
namespace Go.Proofs.Kit
open Go.RowKit
theorem Aside.ownP {D : Nat} {X X' : World} (h : Aside D X X') {t : TypeId} {B : Nat} {v : Value} {l : List Pr} (ho : OwnP t B X v l) : OwnP t B X' v l := by
  refine ho.same fun g hg => ?_
  rcases ho.2.2 with ⟨rfl, _⟩ | ⟨g', cap, cur, rfl, _, hb, _⟩
  · simp [Value.ownBlock] at hg
  · simp [Value.ownBlock] at hg
    subst hg
    exact h.same _ (h.ne hb).1 (h.ne hb).2 (Array.getElem?_eq_some_iff.1 hb).1
theorem Aside.segP {D B : Nat} {w X X' : World} (h : Aside D X X') {v : Value} {l : List Pr} (hs : SegP w v l) (hb : Below B w X) (hB : B ≤ D) (hw : w.heap.size = B) : SegP X' v l := hs.below (h.below hb hB (by omega)) (by omega)
theorem NC.ownP {D : Nat} {W : World} (hn : NC D W) {t : TypeId} {B : Nat} {v : Value} {l : List Pr} (ho : OwnP t B W v l) : ∀ r, v.ownBlock = some r → r ≠ D ∧ r ≠ D + 1 := by
  intro g hg
  rcases ho.2.2 with ⟨rfl, _⟩ | ⟨g', cap, cur, rfl, _, hb, _⟩
  · simp [Value.ownBlock] at hg
  · simp [Value.ownBlock] at hg
    subst hg
    exact ⟨fun e => hn.2 g' _ _ _ (.inl e) hb, fun e => hn.2 g' _ _ _ (.inr e) hb⟩
theorem Blk.ne {w : World} {b b' : Nat} {vs vs' : Array Value} {t t' : TypeId} (h : Blk w b vs t) (h' : Blk w b' vs' t') (ht : t ≠ t') : b ≠ b' := by
  rintro rfl
  have : some (Obj.cells vs t (0, 0)) = some (Obj.cells vs' t' (0, 0)) := (show w.heap[b]? = _ from h).symm.trans h'
  injection this with h
  injection h with _ h2 _
  exact ht h2
theorem cells_new (w : World) (t : TypeId) (a b : Int) : ∀ j u, (flat [(a, b)])[j]? = some u → (w.alloc (.cells #[.int .u64 a, .int .u64 b] t)).cell? ((⟨w.heap.size, 0, none⟩ : Addr).add j) = some u := by
  intro j u hj
  rw [Addr.add_lit, Nat.zero_add, (Blk.new w _ t).cell]
  simpa [flat] using hj
theorem Blk.putObj {w : World} {b D : Nat} {vs : Array Value} {t : TypeId} {x : Option (List Deferred)} (h : Blk w b vs t) (o : Obj) (hD : w.heap[D]? = some (.deferred x)) : Blk (w.putObj D o) b vs t := by
  have hne : b ≠ D := by
    rintro rfl
    have h' : w.heap[b]? = _ := h
    rw [hD] at h'
    cases h'
  exact (World.putObj_heap_other hne).trans h
end Go.Proofs.Kit
namespace Go.Proofs.Ytlhigfphfbmbjaa
open Go.RowKit Go.Proofs.Kit Go.Shelf
attribute [local go_sem] Oper.semAt_some
set_option maxRecDepth 100000 in
set_option maxHeartbeats 1000000 in
theorem keeps_any (k0 k1 k2 : Bool) (s : Int) (hs : s = 0 ∨ s = 1 ∨ s = 2) (w : World) :
    Calls Try.prog 103 #[.agg #[.bool k0, .bool k1, .bool k2], .int .i64 s] w fun e w' => e = .returned (.bool (keepF k0 k1 k2 s)) ∧ Gr w w' := by
  rcases hs with rfl | rfl | rfl
  all_goals
    go_enter Try.func103, Try.ntmps103
    go_wp2
    go_ret
    exact ⟨by simp [keepF], Gr.alloc _ _⟩
set_option maxRecDepth 100000 in
theorem together_any (oa ob : Option Addr) (na ca nb cb : Nat) (w : World) :
    Calls Try.prog 113 #[.slice oa na ca, .slice ob nb cb] w fun e w' => e = .returned (.func (.func 120) #[] #[.pointer (some ⟨w.heap.size, 0, none⟩), .pointer (some ⟨w.heap.size + 1, 0, none⟩)]) ∧ w' = (w.alloc (.cells #[.slice oa na ca] 22)).alloc (.cells #[.slice ob nb cb] 22) := by
  have hmf : ∀ (fn : Fn) (first cap : Array Value) (w : World), (Instr.makeFunc fn first cap).run Try.prog w = .ok (.func fn first cap) w := fun _ _ _ _ => rfl
  go_enter Try.func113, Try.ntmps113
  go_wp2
  go_ret
  exact ⟨rfl, rfl⟩
/-- What holds between two rounds of combine's loop. -/
structure CInv (B : Nat) (w : World) (b8 bx1 bx2 : Nat) (kf va vb : Value) (la lb : List Pr) (k0 k1 k2 : Bool) (pre : List (Pr × Int)) (W : World) : Prop where
  f5 : Blk W B #[kf] 138
  f6 : Blk W (B + 1) #[.slice none 0 0] 22
  f7 : Blk W (B + 2) #[.int .i64 0] 30
  out : ∃ o c, Blk W b8 #[.slice o (keepP k0 k1 k2 pre).length c] 22 ∧ OwnP 53 B W (.slice o (keepP k0 k1 k2 pre).length c) (keepP k0 k1 k2 pre)
  x1 : Blk W bx1 #[va] 22
  x2 : Blk W bx2 #[vb] 22
  low : Below B w W
theorem CInv.later {B b8 bx1 bx2 : Nat} {w W W' : World} {kf va vb : Value} {la lb : List Pr} {k0 k1 k2 : Bool} {pre : List (Pr × Int)} (h : CInv B w b8 bx1 bx2 kf va vb la lb k0 k1 k2 pre W) (hb : Below W.heap.size W W') (hB : w.heap.size = B) : CInv B w b8 bx1 bx2 kf va vb la lb k0 k1 k2 pre W' := by
  obtain ⟨o, c, h1, h2⟩ := h.out
  exact ⟨h.f5.later hb, h.f6.later hb, h.f7.later hb, ⟨o, c, h1.later hb, h2.later hb⟩, h.x1.later hb, h.x2.later hb, h.low.trans (hb.mono (by have := h.low.size; omega))⟩
theorem CInv.aside {D B b8 bx1 bx2 : Nat} {w W W' : World} {kf va vb : Value} {la lb : List Pr} {k0 k1 k2 : Bool} {pre : List (Pr × Int)} (h : CInv B w b8 bx1 bx2 kf va vb la lb k0 k1 k2 pre W) (ha : Kit.Aside D W W') (hB : w.heap.size = B) (hD : B ≤ D) : CInv B w b8 bx1 bx2 kf va vb la lb k0 k1 k2 pre W' := by
  obtain ⟨o, c, h1, h2⟩ := h.out
  exact ⟨ha.blk h.f5, ha.blk h.f6, ha.blk h.f7, ⟨o, c, ha.blk h1, ha.ownP h2⟩, ha.blk h.x1, ha.blk h.x2, ha.below h.low hD (by omega)⟩
theorem CInv.kk {B b8 bx1 bx2 : Nat} {w W : World} {kf va vb : Value} {la lb : List Pr} {k0 k1 k2 : Bool} {pre : List (Pr × Int)} (h : CInv B w b8 bx1 bx2 kf va vb la lb k0 k1 k2 pre W) (hB : w.heap.size = B) (ha : SegP w va la) (hb : SegP w vb lb) : KK 22 bx1 bx2 va vb la lb W :=
  ⟨h.x1, h.x2, ha.below h.low (by omega), hb.below h.low (by omega)⟩
set_option maxRecDepth 100000 in
set_option maxHeartbeats 4000000 in
theorem combine_in (va vb : Value) (la lb : List Pr) (w : World) (ha : SegP w va la) (hb : SegP w vb lb) (hra : Run la) (hrb : Run lb) (hlen : la.length + lb.length ≤ 1048576) (k0 k1 k2 : Bool) :
    CallsIn Fence.wide 6 Try.prog 102 #[va, vb, .func (.func 103) #[.agg #[.bool k0, .bool k1, .bool k2]] #[]] w fun e w' => ∃ v', e = .returned (.tuple #[v', .int .i64 0]) ∧ OwnP 53 w.heap.size w' v' (comb k0 k1 k2 la lb) ∧ Below w.heap.size w w' := by
  obtain ⟨oa, ca, rfl, _, _, _⟩ := ha.shape
  obtain ⟨ob, cb, rfl, _, _, _⟩ := hb.shape
  obtain ⟨i0, hi, hz0, hz1, hz2⟩ := infoP
  have hka := ckP_yes ⟨hra, by omega⟩
  have hkb := ckP_yes ⟨hrb, by omega⟩
  refine callsIn_of_wp_marks Try.func102 rfl trivial ?_ rfl
  simp only [Try.ntmps102, List.size_toArray, List.length_cons, List.length_nil, Nat.reduceAdd, Nat.reduceSub, Array.replicate_succ, Array.replicate_zero, List.push_toArray, List.append_toArray, List.nil_append, List.cons_append]
  obtain ⟨na, hna⟩ : ∃ na, na = la.length := ⟨_, rfl⟩
  obtain ⟨nb, hnb⟩ : ∃ nb, nb = lb.length := ⟨_, rfl⟩
  rw [← hna, ← hnb] at hlen
  rw [← hna] at ha ⊢
  rw [← hnb] at hb ⊢
  have HA := Lib.hid ha
  have HB := Lib.hid hb
  have HNA := Lib.hid hna
  have HNB := Lib.hid hnb
  have HKA := Lib.hid hka
  have HKB := Lib.hid hkb
  clear ha hb hna hnb hka hkb hra hrb
  gi_wp2_with fail
  obtain ⟨W0, hW0⟩ : ∃ W0, W0 = ((w.alloc (.cells #[.func (.func 103) #[.agg #[.bool k0, .bool k1, .bool k2]] #[]] 138)).alloc (.cells #[.slice none 0 0] 22)).alloc (.cells #[.int .i64 0] 30) := ⟨_, rfl⟩
  have G0 : Gr w W0 := by rw [hW0]; exact ((Gr.alloc _ _).trans (Gr.alloc _ _)).trans (Gr.alloc _ _)
  have f5 : Blk W0 w.heap.size #[.func (.func 103) #[.agg #[.bool k0, .bool k1, .bool k2]] #[]] 138 := by rw [hW0]; exact ((Blk.new _ _ _).alloc _).alloc _
  have f6 : Blk W0 (w.heap.size + 1) #[.slice none 0 0] 22 := by rw [hW0]; have := (Blk.new (w.alloc (.cells #[.func (.func 103) #[.agg #[.bool k0, .bool k1, .bool k2]] #[]] 138)) #[.slice none 0 0] 22).alloc (.cells #[.int .i64 0] 30); simpa using this
  have f7 : Blk W0 (w.heap.size + 2) #[.int .i64 0] 30 := by rw [hW0]; have := Blk.new ((w.alloc (.cells #[.func (.func 103) #[.agg #[.bool k0, .bool k1, .bool k2]] #[]] 138)).alloc (.cells #[.slice none 0 0] 22)) #[.int .i64 0] 30; simpa using this
  rw [← hW0]
  clear hW0
  refine ⟨trivial, (callsIn_wide.2 (check_any _ la _ (HA.out.later G0.below))).mono ?_⟩
  rw [HKA.out]
  rintro e w1 ⟨rfl, g1⟩
  have F5 := Lib.hid (f5.later g1.below)
  have F6 := Lib.hid (f6.later g1.below)
  have F7 := Lib.hid (f7.later g1.below)
  have G1 := G0.trans g1
  clear f5 f6 f7 g1 G0
  gi_wp2_with fail
  refine ⟨trivial, (callsIn_wide.2 (check_any _ lb _ (HB.out.later G1.below))).mono ?_⟩
  rw [HKB.out]
  rintro e w2 ⟨rfl, g2⟩
  have F5' := Lib.hid (F5.out.later g2.below)
  have F6' := Lib.hid (F6.out.later g2.below)
  have F7' := Lib.hid (F7.out.later g2.below)
  have G2 := G1.trans g2
  clear F5 F6 F7 g2 G1
  gi_wp2_with fail
  refine ⟨trivial, (callsIn_wide.2 (together_any _ _ _ _ _ _ _)).mono ?_⟩
  rintro e w3 ⟨rfl, rfl⟩
  gi_wp2_with fail
  obtain ⟨W1, hW1⟩ : ∃ W1, W1 = ((w2.alloc (.cells #[.slice none 0 0] 22)).alloc (.cells #[.slice oa na ca] 22)).alloc (.cells #[.slice ob nb cb] 22) := ⟨_, rfl⟩
  have g3 : Gr w2 W1 := by rw [hW1]; exact ((Gr.alloc _ _).trans (Gr.alloc _ _)).trans (Gr.alloc _ _)
  have s1 : W1.heap.size = w2.heap.size + 3 := by rw [hW1]; simp
  have b8 : Blk W1 w2.heap.size #[.slice none 0 0] 22 := by rw [hW1]; exact ((Blk.new _ _ _).alloc _).alloc _
  have x1 : Blk W1 (w2.heap.size + 1) #[.slice oa na ca] 22 := by rw [hW1]; have := (Blk.new (w2.alloc (.cells #[.slice none 0 0] 22)) #[.slice oa na ca] 22).alloc (.cells #[.slice ob nb cb] 22); simpa using this
  have x2 : Blk W1 (w2.heap.size + 2) #[.slice ob nb cb] 22 := by rw [hW1]; have := Blk.new ((w2.alloc (.cells #[.slice none 0 0] 22)).alloc (.cells #[.slice oa na ca] 22)) #[.slice ob nb cb] 22; simpa using this
  have hs2 : w.heap.size + 3 ≤ w2.heap.size := F7'.out.lt
  rw [← hW1]
  clear hW1
  have I0 : CInv w.heap.size w w2.heap.size (w2.heap.size + 1) (w2.heap.size + 2) (.func (.func 103) #[.agg #[.bool k0, .bool k1, .bool k2]] #[]) (.slice oa na ca) (.slice ob nb cb) la lb k0 k1 k2 [] W1 :=
    ⟨F5'.out.later g3.below, F6'.out.later g3.below, F7'.out.later g3.below, ⟨none, 0, b8, OwnP.nil _ _ _⟩, x1, x2, (G2.trans g3).below⟩
  have hseq := together1_in 5 (by decide) (w2.heap.size + 1) (w2.heap.size + 2) (.slice oa na ca) (.slice ob nb cb) la lb (by have := HNA.out; omega) (by have := HNB.out; omega)
  have S1 := Lib.hid s1
  have HI0 := Lib.hid I0
  clear s1 b8 x1 x2 g3 I0 F5' F6' F7'
  have hs2' : w.heap.size ≤ W1.heap.size := by have := S1.out; omega
  refine rangeG (α := Pr × Int) rfl (by decide) (gf := 120) (lb := #[.pointer (some ⟨w2.heap.size + 1, 0, none⟩), .pointer (some ⟨w2.heap.size + 2, 0, none⟩)]) rfl trivial (enters_of Try.func120 (by kernel_rfl) rfl) hseq (fun _ => rfl)
    (fun pre W => CInv w.heap.size w w2.heap.size (w2.heap.size + 1) (w2.heap.size + 2) (.func (.func 103) #[.agg #[.bool k0, .bool k1, .bool k2]] #[]) (.slice oa na ca) (.slice ob nb cb) la lb k0 k1 k2 pre W)
    (fun _ _ _ => False) (fun pre X X' h ha => h.aside ha rfl hs2') (fun _ _ _ _ h _ => h) (fun pre X h => h.kk rfl HA.out HB.out) (fun pre X X' h hb => h.later hb rfl) HI0.out
    (fun x r => { tmps := #[.slice oa na ca, .slice ob nb cb, .func (.func 103) #[.agg #[.bool k0, .bool k1, .bool k2]] #[], undef, undef, .pointer (some ⟨w.heap.size, 0, none⟩), .pointer (some ⟨w.heap.size + 1, 0, none⟩), .pointer (some ⟨w.heap.size + 1 + 1, 0, none⟩), .pointer (some ⟨w2.heap.size, 0, none⟩), .pointer (some ⟨r, 0, none⟩), .int .i64 x.2, .slice oa na ca, .int .i64 0, .bool false, .bool false, .slice ob nb cb, .int .i64 0, .bool false, .bool false, .slice oa na ca, .slice ob nb cb, .func (.func 120) #[] #[.pointer (some ⟨w2.heap.size + 1, 0, none⟩), .pointer (some ⟨w2.heap.size + 1 + 1, 0, none⟩)], PV x.1.1 x.1.2, .int .i64 x.2, undef, undef, undef, undef, undef, undef, undef, undef, undef, undef, undef, undef], defers := [] })
    (fun x r W => Blk W r #[.int .u64 x.1.1, .int .u64 x.1.2] 53) (fun x r X X' h ha => ha.blk h) ?assign ?body ?done ?stop
  case assign =>
    intro l x W K hK
    gi_wp2
    exact hK _ _ (Gr.alloc _ _).below (Nat.le_refl _) (Blk.new _ _ _)
  case body =>
    rintro lp pre ⟨⟨p1, p2⟩, s⟩ r W hI hlen hG hn hR
    obtain ⟨o, c, h1, h2⟩ := hI.out
    have c5 := hI.f5.cell 0
    simp only [List.getElem?_toArray, List.getElem?_cons_zero] at c5
    have HI := Lib.hid hI
    have H1 := Lib.hid h1
    have H2 := Lib.hid h2
    have HR := Lib.hid hR
    have HN := Lib.hid hn
    have HG := Lib.hid hG
    clear hI h1 h2 hR hn hG
    gi_wp2_with fail
    refine ⟨trivial, (CallsIn.inRound lp (callsIn_wide.2 (keeps_any k0 k1 k2 s HG.out _))).mono ?_⟩
    obtain ⟨t, ht⟩ : ∃ t, t = keepF k0 k1 k2 s := ⟨_, rfl⟩
    rw [← ht]
    have hsn := keepP_snoc k0 k1 k2 pre ((p1, p2), s)
    simp only [← ht] at hsn
    have HT := Lib.hid hsn
    clear ht hsn c5
    rintro e w4 ⟨rfl, g4⟩
    have I4 := HI.out.later g4.below rfl
    have n4 := HN.out.below g4.below
    have k4 := Keep2.of_below g4.below HN.out
    have R4 := HR.out.later g4.below
    cases t
    · have HI4 := Lib.hid I4
      have HK4 := Lib.hid k4
      clear I4 n4 k4 R4 g4
      gi_wp2_with fail
      refine ⟨HK4.out, ?_⟩
      obtain ⟨o', c', q1, q2⟩ := HI4.out.out
      have e : keepP k0 k1 k2 (pre ++ [((p1, p2), s)]) = keepP k0 k1 k2 pre := by rw [HT.out]; rfl
      exact ⟨HI4.out.f5, HI4.out.f6, HI4.out.f7, by rw [e]; exact ⟨o', c', q1, q2⟩, HI4.out.x1, HI4.out.x2, HI4.out.low⟩
    · obtain ⟨o', c', q1, q2⟩ := I4.out
      have hkl := keepP_len k0 k1 k2 pre
      have hkN : (keepP k0 k1 k2 pre).length < 1048576 := by have := HNA.out; have := HNB.out; omega
      obtain ⟨m, hm⟩ : ∃ m, m = keepP k0 k1 k2 pre := ⟨_, rfl⟩
      rw [← hm] at q1 q2 hkN HT
      have e0 : ((m.length : Int) == 1048576) = false := by simp; omega
      have c8 := q1.cell 0
      have f8 := q1.frozen 0
      have r0 := R4.cell 0
      have r1 := R4.cell 1
      have l8 := q1.lt
      have lr := R4.lt
      simp only [List.getElem?_toArray, List.getElem?_cons_zero, List.getElem?_cons_succ] at c8 r0 r1
      have hO2 := q2.alloc (.cells #[.int .u64 p1, .int .u64 p2] 53)
      have HO2 := Lib.hid hO2
      have HI4 := Lib.hid I4
      have HK4 := Lib.hid k4
      have HN4 := Lib.hid n4
      have HQ1 := Lib.hid q1
      have HQ2 := Lib.hid q2
      have HM := Lib.hid hm
      have hml : m.length ≤ 1048576 := by omega
      clear I4 n4 k4 R4 g4 q1 q2 hO2 hm hkl
      gi_wp2_with (gi_at_builtin; refine wpListIn_append_own _ rfl _ _ 22 rfl w.heap.size 53 i0 (.agg #[.int .u64 0, .int .u64 0]) 2 16 Try.underlying22 hi hz0 hz1 hz2 rfl (by decide) _ _ _ rfl HO2.out.2 ⟨w4.heap.size, 0, none⟩ 1 1 (flat [(p1, p2)]) rfl rfl ?qc1 ?qc2 ?qc3 ?qc4 ?qc5 ?_)
      case qc1 => exact cells_new _ _ _ _
      case qc2 => exact flat_one _
      case qc3 => unfold maxLen; omega
      case qc4 => omega
      case qc5 => have := HI4.out.low.size; simp; omega
      intro v' w5 hown hgrow _
      have hO : OwnP 53 w.heap.size w5 v' (m ++ [(p1, p2)]) := by
        refine ⟨by rw [List.length_append]; simp; omega, ?_⟩
        rw [List.length_append, flat_append]
        exact hown
      obtain ⟨o5, c5', rfl⟩ := hO.shape
      have ne8 : (Value.slice o' m.length c').ownBlock ≠ some w2.heap.size := HQ2.out.ne_blk HQ1.out (by decide)
      have i5 : Blk w5 w.heap.size _ 138 := ((HI4.out.f5).alloc _).grown hgrow (HQ2.out.ne_blk HI4.out.f5 (by decide))
      have i6 : Blk w5 (w.heap.size + 1) _ 22 := ((HI4.out.f6).alloc _).grown hgrow (HQ2.out.ne_blk HI4.out.f6 (by decide))
      have i7 : Blk w5 (w.heap.size + 2) _ 30 := ((HI4.out.f7).alloc _).grown hgrow (HQ2.out.ne_blk HI4.out.f7 (by decide))
      have i8 : Blk w5 w2.heap.size _ 22 := (HQ1.out.alloc _).grown hgrow ne8
      have ix1 : Blk w5 (w2.heap.size + 1) _ 22 := ((HI4.out.x1).alloc _).grown hgrow (HQ2.out.ne_blk HI4.out.x1 (by decide))
      have ix2 : Blk w5 (w2.heap.size + 2) _ 22 := ((HI4.out.x2).alloc _).grown hgrow (HQ2.out.ne_blk HI4.out.x2 (by decide))
      have lo5 : Below w.heap.size w w5 := (HI4.out.low.alloc HI4.out.low.size _).grown hgrow (by have := HI4.out.low.size; simp; omega) (fun k hk => (HO2.out.lt k hk).1)
      have hk5 : Keep2 W1.heap.size W w5 := HK4.out.trans (((Keep2.refl _ _).alloc HN4.out.1 (.cells #[.int .u64 p1, .int .u64 p2] 53)).trans (.of_grown hgrow (HN4.out.alloc _) ((HN4.out.alloc (.cells #[.int .u64 p1, .int .u64 p2] 53)).ownP (HQ2.out.alloc (.cells #[.int .u64 p1, .int .u64 p2] 53)))))
      have c8' := i8.cell 0
      have f8' := i8.frozen 0
      have l8' := i8.lt
      simp only [List.getElem?_toArray, List.getElem?_cons_zero] at c8'
      have n8 := HN.out.blk (show Blk W w2.heap.size _ 22 from H1.out)
      have HN8 := Lib.hid n8
      have ne5 : (Value.slice o5 (m ++ [(p1, p2)]).length c5').ownBlock ≠ some w2.heap.size := hO.ne_blk i8 (by decide)
      have HNE5 := Lib.hid ne5
      have hO' : OwnP 53 w.heap.size (w5.setCell ⟨w2.heap.size, 0, none⟩ (.slice o5 (m ++ [(p1, p2)]).length c5')) (.slice o5 (m ++ [(p1, p2)]).length c5') (m ++ [(p1, p2)]) := hO.same fun g hg => Below.heap_setCell _ _ _ _ (fun e => HNE5.out (by rw [hg, e]))
      have HO := Lib.hid hO'
      have J5 := Lib.hid i5
      have J6 := Lib.hid i6
      have J7 := Lib.hid i7
      have J8 := Lib.hid i8
      have JX1 := Lib.hid ix1
      have JX2 := Lib.hid ix2
      have LO5 := Lib.hid lo5
      have HK5 := Lib.hid hk5
      have HS2 := Lib.hid hs2
      obtain ⟨n5, hn5⟩ : ∃ n, n = (m ++ [(p1, p2)]).length := ⟨_, rfl⟩
      rw [← hn5] at HO ⊢
      have HN5 := Lib.hid hn5
      clear hown hgrow hO hO' i5 i6 i7 i8 ix1 ix2 lo5 hk5 n8 ne5 hn5
      gi_wp2_with fail
      have hs2'' := HS2.out
      refine ⟨HK5.out.setCell HN8.out.1 HN8.out.2 _, ?_⟩
      have e : keepP k0 k1 k2 (pre ++ [((p1, p2), s)]) = m ++ [(p1, p2)] := by rw [HT.out]; rfl
      refine ⟨J5.out.other (by simp; omega) _, J6.out.other (by simp; omega) _, J7.out.other (by simp; omega) _, ?_, JX1.out.other (by simp) _, JX2.out.other (by simp) _, LO5.out.setCell (by simp; omega) _⟩
      rw [e, ← HN5.out]
      exact ⟨o5, c5', J8.out.set 0 _, HO.out⟩
  case done =>
    rintro D ys W rfl hI hD hK
    obtain ⟨o, c, h1, h2⟩ := hI.out
    have k8 := h1.cell 0
    have k6 := hI.f6.cell 0
    have z6 := hI.f6.frozen 0
    have k7 := hI.f7.cell 0
    have z7 := hI.f7.frozen 0
    simp only [List.getElem?_toArray, List.getElem?_cons_zero] at k8 k6 k7
    have HI := Lib.hid hI
    have H1 := Lib.hid h1
    have H2 := Lib.hid h2
    have HK := Lib.hid hK
    clear hI h1 h2 hK
    gi_wp2
    have s1' := S1.out
    have q6 := (HI.out.f6.set 0 (.slice o (keepP k0 k1 k2 (tog la lb)).length c)).other (p := ⟨w.heap.size + 1 + 1, 0, none⟩) (by simp) (.int .i64 0)
    have q7 := (HI.out.f7.other (p := ⟨w.heap.size + 1, 0, none⟩) (by simp) (.slice o (keepP k0 k1 k2 (tog la lb)).length c)).set 0 (.int .i64 0)
    have n6 : (Value.slice o (keepP k0 k1 k2 (tog la lb)).length c).ownBlock ≠ some (w.heap.size + 1) := H2.out.ne_blk HI.out.f6 (by decide)
    have n7 : (Value.slice o (keepP k0 k1 k2 (tog la lb)).length c).ownBlock ≠ some (w.heap.size + 2) := H2.out.ne_blk HI.out.f7 (by decide)
    have o2 : OwnP 53 w.heap.size ((W.setCell ⟨w.heap.size + 1, 0, none⟩ (.slice o (keepP k0 k1 k2 (tog la lb)).length c)).setCell ⟨w.heap.size + 1 + 1, 0, none⟩ (.int .i64 0)) (.slice o (keepP k0 k1 k2 (tog la lb)).length c) (keepP k0 k1 k2 (tog la lb)) :=
      H2.out.same fun g hg => (Below.heap_setCell _ _ _ _ (fun e => n7 (by rw [hg, e]))).trans (Below.heap_setCell _ _ _ _ (fun e => n6 (by rw [hg, e])))
    have hKf : ((W.setCell ⟨w.heap.size + 1, 0, none⟩ (.slice o (keepP k0 k1 k2 (tog la lb)).length c)).setCell ⟨w.heap.size + 1 + 1, 0, none⟩ (.int .i64 0)).heap[D]? = some (.deferred (some [])) :=
      ((Below.heap_setCell _ _ _ _ (by simp; omega)).trans (Below.heap_setCell _ _ _ _ (by simp; omega))).trans HK.out
    have lof : Below w.heap.size w ((W.setCell ⟨w.heap.size + 1, 0, none⟩ (.slice o (keepP k0 k1 k2 (tog la lb)).length c)).setCell ⟨w.heap.size + 1 + 1, 0, none⟩ (.int .i64 0)) := (HI.out.low.setCell (by simp) _).setCell (by simp; omega) _
    obtain ⟨Wf, hWf⟩ : ∃ Wf, Wf = (W.setCell ⟨w.heap.size + 1, 0, none⟩ (.slice o (keepP k0 k1 k2 (tog la lb)).length c)).setCell ⟨w.heap.size + 1 + 1, 0, none⟩ (.int .i64 0) := ⟨_, rfl⟩
    have q7' : Blk ((W.setCell ⟨w.heap.size + 1, 0, none⟩ (.slice o (keepP k0 k1 k2 (tog la lb)).length c)).setCell ⟨w.heap.size + 1 + 1, 0, none⟩ (.int .i64 0)) (w.heap.size + 2) #[.int .i64 0] 30 := q7
    rw [← hWf] at q6 q7' o2 hKf lof ⊢
    clear hWf k6 k7 k8 z6 z7 q7
    refine ⟨by simp, .inl ⟨_, _, rfl, run_takeDeferred hKf, ?_⟩⟩
    have r6 := (q6.putObj (.deferred none) hKf).cell 0
    have r7 := (q7'.putObj (.deferred none) hKf).cell 0
    simp at r6 r7
    refine ⟨.tuple #[.slice o (keepP k0 k1 k2 (tog la lb)).length c, .int .i64 0], by simp [results, Try.results102, go_sem, r6, r7], .slice o (keepP k0 k1 k2 (tog la lb)).length c, rfl, ?_, lof.trans (below_put' Wf _ (by omega))⟩
    refine o2.same fun g hg => World.putObj_heap_other ?_
    rintro rfl
    have := H2.out.2.2
    rcases this with ⟨h, _⟩ | ⟨g', cap, cur, h, _, hb, _⟩
    · rw [h] at hg; simp [Value.ownBlock] at hg
    · rw [h] at hg
      simp [Value.ownBlock] at hg
      subst hg
      rw [HK.out] at hb
      cases hb
  case stop =>
    rintro D c pre W _ h
    exact h.elim
set_option maxRecDepth 100000 in
/-- combine refuses what is no run. -/
theorem combine_no (va vb : Value) (la lb : List Pr) (w : World) (ha : SegP w va la) (hb : SegP w vb lb) (hno : ¬ (okP la ∧ okP lb)) (k0 k1 k2 : Bool) :
    Calls Try.prog 102 #[va, vb, .func (.func 103) #[.agg #[.bool k0, .bool k1, .bool k2]] #[]] w fun e w' => e = .returned (.tuple #[.slice none 0 0, .int .i64 130]) ∧ Below w.heap.size w w' := by
  obtain ⟨oa, ca, rfl, _, _, _⟩ := ha.shape
  obtain ⟨ob, cb, rfl, _, _, _⟩ := hb.shape
  have HA := Lib.hid ha
  have HB := Lib.hid hb
  clear ha hb
  by_cases h1 : okP la
  · have HKA := Lib.hid (ckP_yes h1)
    have HKB := Lib.hid (ckP_no fun h => hno ⟨h1, h⟩)
    clear h1 hno
    go_enter Try.func102, Try.ntmps102
    go_wp2_with fail
    refine (check_any _ la _ (HA.out.later (((Gr.alloc _ _).trans (Gr.alloc _ _)).trans (Gr.alloc _ _)).below)).mono ?_
    rw [HKA.out]
    rintro e w1 ⟨rfl, g1⟩
    have b6 : Blk w1 (w.heap.size + 1) #[.slice none 0 0] 22 := Blk.later (by have := (Blk.new (w.alloc (.cells #[.func (.func 103) #[.agg #[.bool k0, .bool k1, .bool k2]] #[]] 138)) #[.slice none 0 0] 22).alloc (.cells #[.int .i64 0] 30); simpa using this) g1.below
    have b7 : Blk w1 (w.heap.size + 1 + 1) #[.int .i64 0] 30 := Blk.later (by have := Blk.new ((w.alloc (.cells #[.func (.func 103) #[.agg #[.bool k0, .bool k1, .bool k2]] #[]] 138)).alloc (.cells #[.slice none 0 0] 22)) #[.int .i64 0] 30; simpa using this) g1.below
    have G1 := (((Gr.alloc w (.cells #[.func (.func 103) #[.agg #[.bool k0, .bool k1, .bool k2]] #[]] 138)).trans (Gr.alloc _ _)).trans (Gr.alloc _ _)).trans g1
    have HB6 := Lib.hid b6
    have HB7 := Lib.hid b7
    clear b6 b7 g1
    go_wp2_with fail
    refine (check_any _ lb _ (HB.out.later G1.below)).mono ?_
    rw [HKB.out]
    rintro e w2 ⟨rfl, g2⟩
    have b6 := HB6.out.later g2.below
    have b7 := HB7.out.later g2.below
    have G2 := G1.trans g2
    have c6 := b6.cell 0
    have c7 := b7.cell 0
    have f6 := b6.frozen 0
    have f7 := b7.frozen 0
    simp only [List.getElem?_toArray, List.getElem?_cons_zero] at c6 c7
    have l6 := b6.lt
    have l7 := b7.lt
    have LO := Lib.hid G2.below
    have B6 := Lib.hid b6
    have B7 := Lib.hid b7
    clear G1 g2 G2 b6 b7
    go_wp2
    have r6 := ((B6.out.set 0 (.slice none 0 0)).other (p := ⟨w.heap.size + 1 + 1, 0, none⟩) (by simp) (.int .i64 130)).cell 0
    have r7 := ((B7.out.other (p := ⟨w.heap.size + 1, 0, none⟩) (by simp) (.slice none 0 0)).set 0 (.int .i64 130)).cell 0
    simp at r6 r7
    refine bodyPost_ret (v := .tuple #[.slice none 0 0, .int .i64 130]) (by simp [results, Try.results102, go_sem, r6, r7]) rfl ⟨rfl, ?_⟩
    exact (LO.out.setCell (by simp) _).setCell (by simp; omega) _
  · have HKA := Lib.hid (ckP_no h1)
    clear h1 hno
    go_enter Try.func102, Try.ntmps102
    go_wp2_with fail
    refine (check_any _ la _ (HA.out.later (((Gr.alloc _ _).trans (Gr.alloc _ _)).trans (Gr.alloc _ _)).below)).mono ?_
    rw [HKA.out]
    rintro e w1 ⟨rfl, g1⟩
    have b6 : Blk w1 (w.heap.size + 1) #[.slice none 0 0] 22 := Blk.later (by have := (Blk.new (w.alloc (.cells #[.func (.func 103) #[.agg #[.bool k0, .bool k1, .bool k2]] #[]] 138)) #[.slice none 0 0] 22).alloc (.cells #[.int .i64 0] 30); simpa using this) g1.below
    have b7 : Blk w1 (w.heap.size + 1 + 1) #[.int .i64 0] 30 := Blk.later (by have := Blk.new ((w.alloc (.cells #[.func (.func 103) #[.agg #[.bool k0, .bool k1, .bool k2]] #[]] 138)).alloc (.cells #[.slice none 0 0] 22)) #[.int .i64 0] 30; simpa using this) g1.below
    have G2 := (((Gr.alloc w (.cells #[.func (.func 103) #[.agg #[.bool k0, .bool k1, .bool k2]] #[]] 138)).trans (Gr.alloc _ _)).trans (Gr.alloc _ _)).trans g1
    have c6 := b6.cell 0
    have c7 := b7.cell 0
    have f6 := b6.frozen 0
    have f7 := b7.frozen 0
    simp only [List.getElem?_toArray, List.getElem?_cons_zero] at c6 c7
    have l6 := b6.lt
    have l7 := b7.lt
    have LO := Lib.hid G2.below
    have B6 := Lib.hid b6
    have B7 := Lib.hid b7
    clear g1 G2 b6 b7
    go_wp2
    have r6 := ((B6.out.set 0 (.slice none 0 0)).other (p := ⟨w.heap.size + 1 + 1, 0, none⟩) (by simp) (.int .i64 130)).cell 0
    have r7 := ((B7.out.other (p := ⟨w.heap.size + 1, 0, none⟩) (by simp) (.slice none 0 0)).set 0 (.int .i64 130)).cell 0
    simp at r6 r7
    refine bodyPost_ret (v := .tuple #[.slice none 0 0, .int .i64 130]) (by simp [results, Try.results102, go_sem, r6, r7]) rfl ⟨rfl, ?_⟩
    exact (LO.out.setCell (by simp) _).setCell (by simp; omega) _
theorem combine_any (va vb : Value) (la lb : List Pr) (w : World) (ha : SegP w va la) (hb : SegP w vb lb) (hra : Run la) (hrb : Run lb) (hlen : la.length + lb.length ≤ 1048576) (k0 k1 k2 : Bool) :
    Calls Try.prog 102 #[va, vb, .func (.func 103) #[.agg #[.bool k0, .bool k1, .bool k2]] #[]] w fun e w' => ∃ v', e = .returned (.tuple #[v', .int .i64 0]) ∧ OwnP 53 w.heap.size w' v' (comb k0 k1 k2 la lb) ∧ Below w.heap.size w w' := (callsIn_wide (n := 6)).1 (combine_in va vb la lb w ha hb hra hrb hlen k0 k1 k2)
/-- What is said of two rows. -/
def ck2 (la lb : List Pr) : Int := if okP la ∧ okP lb then 0 else 130
def cmb (k0 k1 k2 : Bool) (la lb : List Pr) : List Pr := if okP la ∧ okP lb then comb k0 k1 k2 la lb else []
theorem combine_all (va vb : Value) (la lb : List Pr) (w : World) (ha : SegP w va la) (hb : SegP w vb lb) (hlen : la.length + lb.length ≤ 1048576) (k0 k1 k2 : Bool) :
    Calls Try.prog 102 #[va, vb, .func (.func 103) #[.agg #[.bool k0, .bool k1, .bool k2]] #[]] w fun e w' => ∃ v', e = .returned (.tuple #[v', .int .i64 (ck2 la lb)]) ∧ OwnP 53 w.heap.size w' v' (cmb k0 k1 k2 la lb) ∧ Below w.heap.size w w' := by
  by_cases h : okP la ∧ okP lb
  · rw [ck2, cmb, if_pos h, if_pos h]
    exact combine_any va vb la lb w ha hb h.1.1 h.2.1 hlen k0 k1 k2
  · rw [ck2, cmb, if_neg h, if_neg h]
    exact (combine_no va vb la lb w ha hb h k0 k1 k2).mono fun e w' ⟨h1, h2⟩ => ⟨_, h1, OwnP.nil _ _ _, h2⟩
set_option maxRecDepth 100000 in
set_option maxHeartbeats 1000000 in
theorem meet_any (va vb : Value) (la lb : List Pr) (w : World) (ha : SegP w va la) (hb : SegP w vb lb) (hlen : la.length + lb.length ≤ 1048576) :
    Calls Try.prog 86 #[va, vb] w fun e w' => ∃ v', e = .returned (.tuple #[v', .int .i64 (ck2 la lb)]) ∧ OwnP 53 w.heap.size w' v' (cmb false true false la lb) ∧ Below w.heap.size w w' := by
  have hmf : ∀ (fn : Fn) (first cap : Array Value) (w : World), (Instr.makeFunc fn first cap).run Try.prog w = .ok (.func fn first cap) w := fun _ _ _ _ => rfl
  obtain ⟨oa, ca, rfl, _, _, _⟩ := ha.shape
  obtain ⟨ob, cb, rfl, _, _, _⟩ := hb.shape
  have HA := Lib.hid ha
  have HB := Lib.hid hb
  clear ha hb
  go_enter Try.func86, Try.ntmps86
  go_wp2_with fail
  refine (combine_all _ _ la lb _ HA.out HB.out hlen false true false).mono ?_
  rintro e w1 ⟨v1, rfl, o1, b1⟩
  go_wp2
  go_ret2
  exact ⟨_, rfl, o1, b1⟩
end Go.Proofs.Ytlhigfphfbmbjaa

