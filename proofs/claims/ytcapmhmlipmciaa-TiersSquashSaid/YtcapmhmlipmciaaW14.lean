/- tiers.Content; Has. -/
import Derived.Test.YtcapmhmlipmciaaW12
import Derived.Test.YtcapmhmlipmciaaW13
import Derived.Test.YtcapmhmlipmciaaN8
namespace Go.Proofs.Ytcapmhmlipmciaa
open Go.RowKit Go.Proofs.Kit Go.Shelf
attribute [local go_sem] Oper.semAt_some
set_option maxRecDepth 100000 in
set_option maxHeartbeats 1000000 in
theorem content11_any (v : Value) (L : List Tr) (w : World) (h : SegT w v L) (hW : Wl L) (hS : SmT 500000 L) :
    Calls Try.prog 15 #[v] w fun e w' => ∃ v', e = .returned v' ∧ OwnP 36 w.heap.size w' v' (cont L) ∧ Below w.heap.size w w' := by
  obtain ⟨o, c, rfl, hc, hm⟩ := h.shape
  have HA := Lib.hid h
  have HW := Lib.hid hW
  have HS := Lib.hid hS
  have HC := Lib.hid (check11_any _ L w h hS)
  clear h hW hS
  by_cases hg : goodT L
  · have e1 : ckT L = 0 := ckT_yes hg
    have e2 : cont L = those L 1 := if_pos hg
    have HG := Lib.hid hg
    have hf : ∀ (a1 a2 a3 : _) (b1 b2 b3 : _) (w : World), (Instr.field 38 (.agg #[.slice a1 a2 a3, .slice b1 b2 b3]) 0).run Try.prog w = .ok (.slice a1 a2 a3) w := fun _ _ _ _ _ _ _ => by kernel_rfl
    rw [e1] at HC
    rw [e2]
    clear e1 e2 hg
    go_enter Try.func15, Try.ntmps15
    go_wp2_with fail
    refine HC.out.mono ?_
    rintro e w1 ⟨rfl, b1⟩
    have HA1 := Lib.hid (HA.out.later b1)
    have LOW := Lib.hid b1
    clear b1
    go_wp2_with fail
    refine (asOne_any true _ L _ HA1.out HW.out (HS.out.mono (by decide)) (by have := HG.out.2; omega)).mono ?_
    rintro e w2 ⟨x, rfl, q2, b2⟩
    have LOW2 := Lib.hid (below_later LOW.out b2)
    have Q := Lib.hid (q2.1.mono (B' := w.heap.size) LOW.out.size)
    clear b2 q2
    go_wp2
    go_ret
    exact ⟨_, rfl, Q.out, LOW2.out⟩
  · have e1 : ckT L = 210 := ckT_no hg
    have e2 : cont L = [] := if_neg hg
    rw [e1] at HC
    rw [e2]
    clear e1 e2 hg
    go_enter Try.func15, Try.ntmps15
    go_wp2_with fail
    refine HC.out.mono ?_
    rintro e w1 ⟨rfl, b1⟩
    go_wp2
    go_ret
    exact ⟨_, rfl, OwnP.nil _ _ _, b1⟩
theorem hasP_ok {l : List Pr} (h : okP l) (p : Pr) : hasP l p = decide (p ∈ l) := by
  unfold hasP
  simp [h.1, h.2]
theorem wpIn_scope {n : Nat} {P : Program} {c : Code} {Q : Exit → Act → World → Prop} {a : Act} {w : World} (h : c.wpIn Fence.wide n P (Exit.noGoto Q) a w) : (Code.scope c).wpIn Fence.wide n P Q a w := wpIn_wide.2 (wp_scope_straight (wpIn_wide.1 h))
/-- What holds between two rounds of Has' loop. -/
structure HInv (w : World) (bp b5 bx : Nat) (p1 p2 : Int) (v : Value) (r : Bool) (X : World) : Prop where
  p : Blk X bp #[.int .u64 p1, .int .u64 p2] 36
  h : Blk X b5 #[.bool r] 4
  x : Blk X bx #[v] 22
  low : Below w.heap.size w X
theorem HInv.later {w X X' : World} {bp b5 bx : Nat} {p1 p2 : Int} {v : Value} {r : Bool} (h : HInv w bp b5 bx p1 p2 v r X) (hb : Below X.heap.size X X') : HInv w bp b5 bx p1 p2 v r X' := ⟨h.p.later hb, h.h.later hb, h.x.later hb, below_later h.low hb⟩
theorem HInv.aside {w X X' : World} {bp b5 bx D : Nat} {p1 p2 : Int} {v : Value} {r : Bool} (h : HInv w bp b5 bx p1 p2 v r X) (ha : Kit.Aside D X X') (hD : w.heap.size ≤ D) : HInv w bp b5 bx p1 p2 v r X' := ⟨ha.blk h.p, ha.blk h.h, ha.blk h.x, ha.below h.low hD (Nat.le_refl _)⟩
set_option maxRecDepth 100000 in
set_option maxHeartbeats 4000000 in
theorem has_in (l : List Ti) (L : List Tr) (o : Option Addr) (n c : Nat) (p1 p2 : Int) (w : World) (hE : SegE tiE w (.slice o n c) l) (hl : l.length = n) (hL : L.length = n) (hT : ∀ i (h : i < l.length) (h' : i < L.length), TR w l[i] L[i]) (hS : SmT 500000 L) (hg : goodT L) :
    CallsIn Fence.wide 6 Try.prog 19 #[.slice o n c, PV p1 p2] w fun e w' => e = .returned (.bool (decide (says L (p1, p2) = 1))) ∧ Below w.heap.size w w' := by
  have HE := Lib.hid hE
  have HL := Lib.hid hl
  have HLL := Lib.hid hL
  have HT := Lib.hid hT
  have HG := Lib.hid hg
  have hseg : SegT w (.slice o n c) L := ⟨l, hE, by rw [hl, hL], hT⟩
  have HC := Lib.hid (fun W (hb : Gr w W) => check11_any _ L W (hseg.gr hb) hS)
  rw [ckT_yes hg] at HC
  clear hE hl hL hT hS hg hseg
  refine callsIn_of_wp_marks Try.func19 rfl trivial ?_ rfl
  simp only [Try.ntmps19, List.size_toArray, List.length_cons, List.length_nil, Nat.reduceAdd, Nat.reduceSub, Array.replicate_succ, Array.replicate_zero, List.push_toArray, List.append_toArray, List.nil_append, List.cons_append]
  gi_wp2_with fail
  refine wpIn_scope ?_
  gi_wp2_with fail
  refine ⟨trivial, (callsIn_wide.2 (HC.out _ (Gr.alloc _ _))).mono ?_⟩
  rintro e w1 ⟨rfl, b1⟩
  have kp := (Blk.new w #[.int .u64 p1, .int .u64 p2] 36).later b1
  have LOW := Lib.hid (below_later (Gr.alloc w (.cells #[.int .u64 p1, .int .u64 p2] 36)).below b1)
  have hw1 : w.heap.size < w1.heap.size := kp.lt
  have KP := Lib.hid kp
  clear kp b1
  gi_wp2_with fail
  refine wpIn_label ?_
  gi_wp2_with fail
  refine ⟨trivial, (callsIn_wide.2 (newest_any _ _ _ _)).mono ?_⟩
  rintro e w2 ⟨rfl, rfl⟩
  gi_wp2_with fail
  obtain ⟨W1, hW1⟩ : ∃ W1, W1 = (w1.alloc (.cells #[.bool false] 4)).alloc (.cells #[.slice o n c] 22) := ⟨_, rfl⟩
  have G1 : Gr w1 W1 := by rw [hW1]; exact (Gr.alloc _ _).trans (Gr.alloc _ _)
  have s1 : W1.heap.size = w1.heap.size + 2 := by rw [hW1]; simp
  have k1 : Blk W1 w1.heap.size #[.bool false] 4 := by rw [hW1]; exact (Blk.new _ _ _).alloc _
  have k2 : Blk W1 (w1.heap.size + 1) #[.slice o n c] 22 := by
    rw [hW1]
    have := Blk.new (w1.alloc (.cells #[.bool false] 4)) #[.slice o n c] 22
    simpa using this
  rw [← hW1]
  clear hW1
  have I0 : HInv w w.heap.size w1.heap.size (w1.heap.size + 1) p1 p2 (.slice o n c) false W1 := ⟨KP.out.later G1.below, k1, k2, below_later LOW.out G1.below⟩
  have hseq := newest1_in 5 (by decide) (w1.heap.size + 1) o n c l L HL.out HLL.out (by have := HG.out.2; have := HLL.out; omega)
  have HI0 := Lib.hid I0
  have hs1 : w.heap.size ≤ W1.heap.size := by omega
  clear I0 k1 k2 G1 s1
  refine rangeG (α := Ti × Tr) rfl (by decide) (gf := 60) (lb := #[.pointer (some ⟨w1.heap.size + 1, 0, none⟩)]) rfl trivial (enters_of Try.func60 (by kernel_rfl) rfl) hseq (fun _ => rfl)
    (fun pre W => HInv w w.heap.size w1.heap.size (w1.heap.size + 1) p1 p2 (.slice o n c) false W ∧ sayR (pre.map (·.2)) (p1, p2) = 0)
    (fun c' pre W => c' = .exit 0 ∧ ∃ r : Bool, HInv w w.heap.size w1.heap.size (w1.heap.size + 1) p1 p2 (.slice o n c) r W ∧ sayR (pre.map (·.2)) (p1, p2) = if r then 1 else 2)
    (fun pre X X' h ha => ⟨h.1.aside ha hs1, h.2⟩) (fun c' pre X X' h ha => by obtain ⟨h1, r, h2, h3⟩ := h; exact ⟨h1, r, h2.aside ha hs1, h3⟩) (fun pre X h => ⟨h.1.x, HE.out.below h.1.low (Nat.le_refl _)⟩) (fun pre X X' h hb => ⟨h.1.later hb, h.2⟩) ⟨HI0.out, rfl⟩
    (fun x r => { tmps := #[.slice o n c, PV p1 p2, undef, .pointer (some ⟨w.heap.size, 0, none⟩), .bool false, .pointer (some ⟨w1.heap.size, 0, none⟩), .pointer (some ⟨r, 0, none⟩), .slice o n c, .int .i64 0, .bool false, .slice o n c, .func (.func 60) #[] #[.pointer (some ⟨w1.heap.size + 1, 0, none⟩)], .agg #[.slice x.1.ao x.1.an x.1.ac, .slice x.1.bo x.1.bn x.1.bc], undef, undef, undef, undef, undef, undef, undef, undef, undef, undef, undef], defers := [] })
    (fun x r W => Blk W r #[.slice x.1.ao x.1.an x.1.ac, .slice x.1.bo x.1.bn x.1.bc] 38) (fun x r X X' h ha => ha.blk h) ?assign ?body ?done ?stop
  case assign =>
    intro lp x W K hK
    gi_wp2
    exact hK _ _ (Gr.alloc _ _).below (Nat.le_refl _) (Blk.new _ _ _)
  case body =>
    rintro lp pre ⟨x, t⟩ r W ⟨hI, hsay⟩ hlen hG hn hR
    obtain ⟨q, hql, hqL, he⟩ := hG
    injection he with he1 he2
    have hTR : TR w x t := by rw [he1, he2]; exact HT.out q hql hqL
    have hOne : oneT t := by rw [he2]; exact HG.out.1 _ (List.getElem_mem hqL)
    have HTR := Lib.hid hTR
    obtain ⟨ao, an, ac, bo, bn, bc⟩ := x
    simp only at hR HTR
    have c0 := hI.p.cell 0
    have c1 := hI.p.cell 1
    have lp0 := hI.p.lt
    have d0 := hR.cell 0
    have d1 := hR.cell 1
    have lr := hR.lt
    simp only [List.getElem?_toArray, List.getElem?_cons_zero, List.getElem?_cons_succ] at c0 c1 d0 d1
    obtain ⟨b1, hb1⟩ : ∃ b1, b1 = decide ((p1, p2) ∈ t.1) := ⟨_, rfl⟩
    obtain ⟨b2, hb2⟩ : ∃ b2, b2 = decide ((p1, p2) ∈ t.2) := ⟨_, rfl⟩
    have HA := Lib.hid (has_any _ t.1 W (HTR.out.a.below hI.low (Nat.le_refl _)) p1 p2)
    have HB := Lib.hid (fun W' (hb : Below w.heap.size w W') => has_any _ t.2 W' (HTR.out.b.below hb (Nat.le_refl _)) p1 p2)
    rw [hasP_ok hOne.1.1, ← hb1] at HA
    rw [hasP_ok hOne.1.2, ← hb2] at HB
    have hnext : ∀ k : Int, say1 t (p1, p2) = k → sayR ((pre ++ [((⟨ao, an, ac, bo, bn, bc⟩ : Ti), t)]).map (fun y : Ti × Tr => y.2)) (p1, p2) = k := by
      intro k hk
      rw [List.map_append, sayR_append, hsay, if_pos rfl]
      exact hk
    have HNX := Lib.hid hnext
    have HB1 := Lib.hid hb1
    have HB2 := Lib.hid hb2
    have HI := Lib.hid hI
    have HR := Lib.hid hR
    have HN := Lib.hid hn
    clear hI hR hn he1 he2 hql hqL hTR hOne hb1 hb2 hnext hsay
    gi_wp2_with fail
    refine ⟨trivial, (CallsIn.inRound lp (callsIn_wide.2 HA.out)).mono ?_⟩
    rintro e w4 ⟨rfl, g4⟩
    have I4 := HI.out.later g4.below
    have R4 := HR.out.later g4.below
    have K4 := Keep2.of_below g4.below HN.out
    have N4 := HN.out.below g4.below
    have c0 := I4.p.cell 0
    have c1 := I4.p.cell 1
    have lp0 := I4.p.lt
    have h0 := I4.h.cell 0
    have hf0 := I4.h.frozen 0
    have lh := I4.h.lt
    have d0 := R4.cell 0
    have d1 := R4.cell 1
    have lr := R4.lt
    simp only [List.getElem?_toArray, List.getElem?_cons_zero, List.getElem?_cons_succ] at c0 c1 d0 d1 h0
    have HI4 := Lib.hid I4
    have HK4 := Lib.hid K4
    have HN4 := Lib.hid N4
    have nh := HN.out.blk HI.out.h
    have NH := Lib.hid nh
    clear g4 R4 K4 N4 I4 nh
    cases b1
    · have h1 := of_decide_eq_false HB1.out.symm
      have HB' := Lib.hid (HB.out w4 HI4.out.low)
      have H1 := Lib.hid h1
      clear h1
      gi_wp2_with fail
      refine ⟨trivial, (CallsIn.inRound lp (callsIn_wide.2 HB'.out)).mono ?_⟩
      rintro e w5 ⟨rfl, g5⟩
      have HI5 := Lib.hid (HI4.out.later g5.below)
      have HK5 := Lib.hid (HK4.out.trans (Keep2.of_below g5.below HN4.out))
      clear g5 c0 c1 d0 d1 h0 hf0 lh lr lp0
      cases b2
      · have h2 := of_decide_eq_false HB2.out.symm
        gi_wp2_with fail
        exact ⟨HK5.out, HI5.out, HNX.out 0 (by unfold say1; rw [if_neg H1.out, if_neg h2])⟩
      · have h2 := of_decide_eq_true HB2.out.symm
        have H2 := Lib.hid h2
        clear h2
        gi_wp2_with fail
        exact ⟨HK5.out, rfl, false, HI5.out, HNX.out _ (by unfold say1; rw [if_neg H1.out, if_pos H2.out]; try rfl)⟩
    · have h1 := of_decide_eq_true HB1.out.symm
      have H1 := Lib.hid h1
      clear h1
      gi_wp2_with fail
      refine ⟨HK4.out.setCell NH.out.1 NH.out.2 _, rfl, true, ?_, HNX.out _ (by unfold say1; rw [if_pos H1.out]; try rfl)⟩
      refine ⟨HI4.out.p.other (by simp; omega) _, ?_, HI4.out.x.other (by simp) _, HI4.out.low.setCell (by simp; omega) _⟩
      have := HI4.out.h.set 0 (.bool true)
      simpa using this
  case done =>
    rintro D ys W rfl ⟨hI, hsay⟩ hD hK
    have k3 := hI.h.cell 0
    have l3 := hI.h.lt
    simp only [List.getElem?_toArray, List.getElem?_cons_zero] at k3
    have HI := Lib.hid hI
    have HK := Lib.hid hK
    have hr : says L (p1, p2) = 0 := by
      rw [told_snd (HL.out.trans HLL.out.symm)] at hsay
      exact hsay
    have HR := Lib.hid hr
    clear hI hK hsay hr
    gi_wp2
    refine ⟨by simp, .inl ⟨_, _, rfl, run_takeDeferred HK.out, ?_⟩⟩
    refine ⟨.bool false, by simp [results, Try.results19, go_sem], by rw [HR.out]; rfl, HI.out.low.trans (below_put' W _ (by omega))⟩
  case stop =>
    rintro D c' pre W ⟨rest, hrest⟩ ⟨rfl, r, hI, hsay⟩ hD hK
    have k3 := hI.h.cell 0
    have l3 := hI.h.lt
    simp only [List.getElem?_toArray, List.getElem?_cons_zero] at k3
    have HI := Lib.hid hI
    have HK := Lib.hid hK
    have hr : decide (says L (p1, p2) = 1) = r := by
      have h1 : says L (p1, p2) = if r then 1 else 2 := by
        unfold says
        rw [← told_snd (HL.out.trans HLL.out.symm), hrest, List.map_append, sayR_append, hsay]
        cases r <;> rfl
      rw [h1]
      cases r <;> rfl
    have HR := Lib.hid hr
    clear hI hK hsay hr hrest
    gi_wp2_with fail
    refine ⟨by simp, .inl ⟨_, _, rfl, run_takeDeferred HK.out, ?_⟩⟩
    refine ⟨.bool r, by simp [results, Try.results19, go_sem], by rw [HR.out], HI.out.low.trans (below_put' W _ (by omega))⟩
set_option maxRecDepth 100000 in
set_option maxHeartbeats 4000000 in
theorem has_no (v : Value) (L : List Tr) (p1 p2 : Int) (w : World) (hseg : SegT w v L) (hS : SmT 500000 L) (hg : ¬ goodT L) :
    CallsIn Fence.wide 6 Try.prog 19 #[v, PV p1 p2] w fun e w' => e = .returned (.bool false) ∧ Below w.heap.size w w' := by
  obtain ⟨o, c, rfl, _⟩ := hseg.shape
  have HC := Lib.hid (fun W (hb : Gr w W) => check11_any _ L W (hseg.gr hb) hS)
  rw [ckT_no hg] at HC
  clear hS hg hseg
  refine callsIn_of_wp_marks Try.func19 rfl trivial ?_ rfl
  simp only [Try.ntmps19, List.size_toArray, List.length_cons, List.length_nil, Nat.reduceAdd, Nat.reduceSub, Array.replicate_succ, Array.replicate_zero, List.push_toArray, List.append_toArray, List.nil_append, List.cons_append]
  gi_wp2_with fail
  refine wpIn_scope ?_
  gi_wp2_with fail
  refine ⟨trivial, (callsIn_wide.2 (HC.out _ (Gr.alloc _ _))).mono ?_⟩
  rintro e w1 ⟨rfl, b1⟩
  have LOW := Lib.hid (below_later (Gr.alloc w (.cells #[.int .u64 p1, .int .u64 p2] 36)).below b1)
  clear b1
  gi_wp2_with fail
  exact ⟨.bool false, by simp [results, Try.results19, go_sem], rfl, LOW.out⟩
theorem has11_any (v : Value) (L : List Tr) (p1 p2 : Int) (w : World) (hseg : SegT w v L) (hS : SmT 500000 L) (r : Bool) (hr : r = decide (goodT L ∧ says L (p1, p2) = 1)) :
    Calls Try.prog 19 #[v, PV p1 p2] w fun e w' => e = .returned (.bool r) ∧ Below w.heap.size w w' := by
  subst hr
  by_cases hg : goodT L
  · have e : decide (goodT L ∧ says L (p1, p2) = 1) = decide (says L (p1, p2) = 1) := by simp [hg]
    rw [e]
    obtain ⟨l, h1, h2, h3⟩ := hseg
    obtain ⟨o, c, rfl, _⟩ := h1.shape
    rw [h2] at h1 ⊢
    exact (callsIn_wide (n := 6)).1 (has_in l L o L.length c p1 p2 w h1 h2 rfl h3 hS hg)
  · have e : decide (goodT L ∧ says L (p1, p2) = 1) = false := decide_eq_false (fun c => hg c.1)
    rw [e]
    exact (callsIn_wide (n := 6)).1 (has_no v L p1 p2 w hseg hS hg)
end Go.Proofs.Ytcapmhmlipmciaa

