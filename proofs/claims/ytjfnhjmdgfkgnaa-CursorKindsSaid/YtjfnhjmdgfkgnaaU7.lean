/- trie.pairs: the run of a trie. -/
import Derived.Test.YtjfnhjmdgfkgnaaU6
namespace Go.Proofs.Kit
open Go.RowKit
theorem lvs_le (lv : List Int) (b : Br) : (lvs lv b).length ≤ lv.length := by unfold lvs; simp; omega
theorem prs_len (lv : List Int) : ∀ bs : List Br, (prs bs lv).length ≤ bs.length * lv.length
  | [] => by simp [prs]
  | b :: t => by
    have := prs_len lv t
    have h := lvs_le lv b
    simp only [prs, List.flatMap_cons, List.length_append, List.length_map, List.length_cons, Nat.add_mul] at this ⊢
    omega
theorem prs_snoc (bs : List Br) (b : Br) (lv : List Int) : prs (bs ++ [b]) lv = prs bs lv ++ (lvs lv b).map fun n => (b.1, n) := by
  unfold prs
  rw [List.flatMap_append]
  simp
theorem Keep2.of_keepT {t : TypeId} {D : Nat} {W W' : World} (h : KeepT t W W') (hn : NC D W) : Keep2 D W W' :=
  ⟨h.1, h.2 D (by have := hn.1; omega) (fun vs f => hn.2 D vs t f (.inl rfl)), h.2 (D + 1) hn.1 (fun vs f => hn.2 (D + 1) vs t f (.inr rfl))⟩
theorem OwnP.oth {t : TypeId} {B : Nat} {w : World} {v : Value} {l : List Pr} (h : OwnP t B w v l) {g : Nat} (hg : v.ownBlock ≠ some g) (j : Nat) (u : Value) : OwnP t B (w.setCell ⟨g, j, none⟩ u) v l := h.same fun g' hg' => Below.heap_setCell _ _ _ _ (fun e => hg (by rw [hg', e]))
/-- What holds between two rounds of pairs' loop. -/
structure PInv (tT tP tE : TypeId) (w : World) (bo bx : Nat) (vb vl : Value) (lv : List Int) (pre : List Br) (W : World) : Prop where
  out : ∃ o n c, Blk W bo #[.slice o n c] tP ∧ OwnP tE w.heap.size W (.slice o n c) (prs pre lv)
  x1 : Blk W bx #[vb, vl] tT
  low : Below w.heap.size w W
section
variable {tT tP tE : TypeId} {w W W' : World} {bo bx : Nat} {vb vl : Value} {lv : List Int} {pre : List Br}
theorem PInv.later (h : PInv tT tP tE w bo bx vb vl lv pre W) (hb : Below W.heap.size W W') : PInv tT tP tE w bo bx vb vl lv pre W' := by
  obtain ⟨o, n, c, h1, h2⟩ := h.out
  exact ⟨⟨o, n, c, h1.later hb, h2.later hb⟩, h.x1.later hb, below_later h.low hb⟩
theorem PInv.aside {D : Nat} (h : PInv tT tP tE w bo bx vb vl lv pre W) (ha : Kit.Aside D W W') (hD : w.heap.size ≤ D) : PInv tT tP tE w bo bx vb vl lv pre W' := by
  obtain ⟨o, n, c, h1, h2⟩ := h.out
  exact ⟨⟨o, n, c, ha.blk h1, ha.ownP h2⟩, ha.blk h.x1, ha.below h.low hD (Nat.le_refl _)⟩
theorem PInv.kt (h : PInv tT tP tE w bo bx vb vl lv pre W) {bs : List Br} (hb : SegR w vb bs) (hl : Seg .u64 w vl lv) : KT tT bx vb vl bs lv W := ⟨h.x1, hb.later h.low, hl.later h.low⟩
end
end Go.Proofs.Kit
namespace Go.Proofs.Ytjfnhjmdgfkgnaa
open Go.RowKit Go.Proofs.Kit Go.Shelf
attribute [local go_sem] Oper.semAt_some
set_option maxRecDepth 100000 in
set_option maxHeartbeats 4000000 in
theorem pairs_in (vb vl : Value) (bs : List Br) (lv : List Int) (w : World) (hb : SegR w vb bs) (hl : Seg .u64 w vl lv) (hlv : lv.length ≤ 10000) (hbs : bs.length ≤ 10000) (hcd : Chd lv.length bs) :
    CallsIn Fence.wide 6 Try.prog 57 #[.agg #[vb, vl]] w fun e w' => ∃ v', e = .returned v' ∧ OwnP 83 w.heap.size w' v' (prs bs lv) ∧ Below w.heap.size w w' := by
  obtain ⟨ob, cb, rfl, qb, qb', _⟩ := hb.shape
  obtain ⟨ol, cl, rfl, ql, ql', _⟩ := hl.shape
  obtain ⟨i0, hi, hz0, hz1, hz2⟩ := infoP
  obtain ⟨m, hm⟩ : ∃ m, m = bs.length := ⟨_, rfl⟩
  obtain ⟨q, hq⟩ : ∃ q, q = lv.length := ⟨_, rfl⟩
  rw [← hm] at qb hbs hb ⊢
  rw [← hq] at ql hlv hl hcd ⊢
  have HB := Lib.hid hb
  have HL := Lib.hid hl
  have HM := Lib.hid hm
  have HQ := Lib.hid hq
  have HCD := Lib.hid hcd
  clear hm hq hb hl hcd
  refine callsIn_of_wp_marks Try.func57 rfl trivial ?_ rfl
  simp only [Try.ntmps57, List.size_toArray, List.length_cons, List.length_nil, Nat.reduceAdd, Nat.reduceSub, Array.replicate_succ, Array.replicate_zero, List.push_toArray, List.append_toArray, List.nil_append, List.cons_append]
  refine wpIn_wide.2 ?_
  go_wp2_with (refine wpList_make_own _ rfl _ _ _ rfl w.heap.size 83 i0 (.agg #[.int .u64 0, .int .u64 0]) 2 Try.underlying46 hi hz0 hz1 .i64 .i64 _ q rfl rfl rfl ?ma ?mb ?mc ?_)
  case ma => rw [hz2]; omega
  case mb => unfold maxLen; omega
  case mc => simp
  intro w1 ho1 hg1
  have lo1 : Below w.heap.size w w1 := ((Below.refl _ _).alloc (Nat.le_refl _) _).trans ((Below.refl _ _).grown hg1 (by simp) (fun _ h => by cases h))
  have hO1 : OwnP 83 w.heap.size w1 _ [] := ⟨by simp, ho1⟩
  have f0 : Blk w1 w.heap.size #[.slice ob m cb, .slice ol q cl] 25 := (Blk.new w #[.slice ob m cb, .slice ol q cl] 25).grown hg1 (by simp)
  have F0 := Lib.hid f0
  have HO1 := Lib.hid hO1
  have LO1 := Lib.hid lo1
  obtain ⟨c1, c2, l0⟩ := f0.two
  clear ho1 hg1 hO1 f0 lo1
  go_wp2_with (go_at_call 86; refine (branches_any _ _ _).mono ?_; rintro e w' ⟨rfl, rfl⟩)
  obtain ⟨oo, hoo⟩ : ∃ oo : Option Addr, oo = some ⟨w.heap.size + 1, 0, none⟩ := ⟨_, rfl⟩
  rw [← hoo] at HO1 ⊢
  clear hoo
  obtain ⟨W1, hW1⟩ : ∃ W1, W1 = (w1.alloc (.cells #[.slice oo 0 q] 46)).alloc (.cells #[.slice ob m cb, .slice ol q cl] 25) := ⟨_, rfl⟩
  have g3 : Gr w1 W1 := by rw [hW1]; exact (Gr.alloc _ _).trans (Gr.alloc _ _)
  have b3 : Blk W1 w1.heap.size #[.slice oo 0 q] 46 := by rw [hW1]; exact (Blk.new _ _ _).alloc _
  have x1 : Blk W1 (w1.heap.size + 1) #[.slice ob m cb, .slice ol q cl] 25 := by rw [hW1]; have := Blk.new (w1.alloc (.cells #[.slice oo 0 q] 46)) #[.slice ob m cb, .slice ol q cl] 25; simpa using this
  rw [← hW1]
  have I0 : PInv 25 46 83 w w1.heap.size (w1.heap.size + 1) (.slice ob m cb) (.slice ol q cl) lv [] W1 := ⟨⟨oo, 0, q, b3, HO1.out.later g3.below⟩, x1, below_later LO1.out g3.below⟩
  clear hW1 c1 c2 l0 HO1
  have hseq := branches1_in 5 (by decide) (w1.heap.size + 1) (.slice ob m cb) (.slice ol q cl) bs lv (by rw [← HQ.out]; exact HCD.out) (by rw [← HM.out]; omega)
  have HI0 := Lib.hid I0
  have hw1 : w.heap.size ≤ W1.heap.size := I0.low.size
  have hwo : w.heap.size ≤ w1.heap.size := LO1.out.size
  clear I0 x1 b3 g3 LO1 F0
  refine (wpIn_wide (n := 6)).1 ?_
  refine rangeG (α := Br) rfl (by decide) (gf := 120) (lb := #[.pointer (some ⟨w1.heap.size + 1, 0, none⟩)]) rfl trivial (enters_of Try.func120 (by kernel_rfl) rfl) hseq (fun _ => rfl)
    (fun pre W => PInv 25 46 83 w w1.heap.size (w1.heap.size + 1) (.slice ob m cb) (.slice ol q cl) lv pre W)
    (fun _ _ _ => False) (fun pre X X' h ha => h.aside ha hw1) (fun _ _ _ _ h _ => h) (fun pre X h => h.kt HB.out HL.out) (fun pre X X' h hb => h.later hb) HI0.out
    (fun x r => { tmps := #[.agg #[.slice ob m cb, .slice ol q cl], .pointer (some ⟨w.heap.size, 0, none⟩), .slice none 0 0, .pointer (some ⟨w1.heap.size, 0, none⟩), .pointer (some ⟨r, 0, none⟩), sub3 (.slice ol q cl) x.2.1.toNat x.2.2.toNat, .pointer (some ⟨w.heap.size, 1, none⟩), .slice ol q cl, .int .i64 (q : Int), .slice oo 0 q, .agg #[.slice ob m cb, .slice ol q cl], .func (.func 120) #[] #[.pointer (some ⟨w1.heap.size + 1, 0, none⟩)], .int .u64 x.1, sub3 (.slice ol q cl) x.2.1.toNat x.2.2.toNat, undef, undef, undef, undef, undef], defers := [] })
    (fun x r W => Blk W r #[.int .u64 x.1] 32) (fun x r X X' h ha => ha.blk h) ?assign ?body ?done ?stop
  case assign =>
    intro l x W K hK
    gi_wp2
    exact hK _ _ (Gr.alloc _ _).below (Nat.le_refl _) (Blk.new _ _ _)
  case body =>
    rintro lp pre x r W hI hlen hmem hn hR
    obtain ⟨i, hi', rfl⟩ := List.getElem_of_mem hmem
    have hbr := HCD.out.br hi'
    have hsg := fun (X : World) (h : Below w.heap.size W X) => (HL.out.below (hI.low.trans h) (Nat.le_refl _)).lvs (x := bs[i]) hbr.1 hbr.2.2.1 (by have := HQ.out; omega)
    obtain ⟨x, hx⟩ : ∃ x, x = bs[i] := ⟨_, rfl⟩
    rw [← hx] at hsg hmem hR ⊢
    clear hx hbr hi'
    obtain ⟨v, hv⟩ : ∃ v, v = sub3 (.slice ol q cl) x.2.1.toNat x.2.2.toNat := ⟨_, rfl⟩
    rw [← hv] at hsg ⊢
    obtain ⟨o, n, c, h1, h2⟩ := hI.out
    have hcount : (prs pre lv).length + (lvs lv x).length ≤ 1000000000 := by
      have e1 := prs_len lv pre
      have e2 := lvs_le lv x
      have e3 : pre.length * lv.length ≤ 10000 * 10000 := Nat.mul_le_mul (by have := HM.out; omega) (by have := HQ.out; omega)
      have := HQ.out
      omega
    have HGA := Lib.hid (gathuP_any w.heap.size (.slice o n c) (prs pre lv) v (lvs lv x) W x.1 r h2 hI.low.size hsg hR hcount)
    have c3 := h1.cell 0
    have z3 := h1.frozen 0
    have l3 := h1.lt
    simp only [List.getElem?_toArray, List.getElem?_cons_zero] at c3
    have HI := Lib.hid hI
    have HN := Lib.hid hn
    have H1 := Lib.hid h1
    clear hv hsg hI hn h1 h2 hcount hmem hlen z3
    gi_wp2_with fail
    refine ⟨trivial, (CallsIn.inRound lp (callsIn_wide.2 HGA.out)).mono ?_⟩
    rintro e w4 ⟨v', rfl, hO4, hb4, hk4⟩
    obtain ⟨o4', c4', rfl⟩ := hO4.shape
    obtain ⟨n4', hn4⟩ : ∃ n4', n4' = (prs pre lv ++ List.map (fun n => (x.1, n)) (lvs lv x)).length := ⟨_, rfl⟩
    rw [← hn4] at hO4 ⊢
    clear hn4
    have q1 := hk4.blk H1.out (by decide)
    have c3' := q1.cell 0
    have z3' := q1.frozen 0
    have l3' := q1.lt
    simp only [List.getElem?_toArray, List.getElem?_cons_zero] at c3'
    have q2 := q1.set 0 (.slice o4' n4' c4')
    have q3 := (hk4.blk HI.out.x1 (by decide)).other (p := ⟨w1.heap.size, 0, none⟩) (by simp) (.slice o4' n4' c4')
    have o4 := hO4.oth (hO4.ne_blk q1 (by decide)) 0 (.slice o4' n4' c4')
    have k4 := (Keep2.of_keepT hk4 HN.out).setCell (p := ⟨w1.heap.size, 0, none⟩) (HN.out.blk H1.out).1 (HN.out.blk H1.out).2 (.slice o4' n4' c4')
    have lo4 := (HI.out.low.trans hb4).setCell (p := ⟨w1.heap.size, 0, none⟩) hwo (.slice o4' n4' c4')
    have HQ2 := Lib.hid q2
    have HQ3 := Lib.hid q3
    have HO4 := Lib.hid o4
    have HK4 := Lib.hid k4
    have HLO4 := Lib.hid lo4
    clear q1 q2 q3 o4 k4 lo4 hb4 hk4 hO4 c3 l3
    gi_wp2_with fail
    refine ⟨HK4.out, ⟨⟨o4', n4', c4', ?_, ?_⟩, HQ3.out, HLO4.out⟩⟩
    · exact HQ2.out
    · rw [prs_snoc]; exact HO4.out
  case done =>
    rintro D xs W rfl hI hD hdef
    obtain ⟨o, n, c, h1, h2⟩ := hI.out
    have c3 := h1.cell 0
    have l3 := h1.lt
    simp only [List.getElem?_toArray, List.getElem?_cons_zero] at c3
    have HI := Lib.hid hI
    have HD := Lib.hid hdef
    have H2 := Lib.hid h2
    clear hI hdef h1 h2
    go_wp2
    refine ⟨by simp, .inl ⟨_, _, rfl, run_takeDeferred HD.out, ?_⟩⟩
    refine ⟨.slice o n c, by simp [results, Try.results57, go_sem], _, rfl, ?_, HI.out.low.trans (below_put' W _ (by omega))⟩
    refine H2.out.same fun g hg => World.putObj_heap_other ?_
    rintro rfl
    rcases H2.out.2.2 with ⟨h, _⟩ | ⟨g', cap, cur, h, _, hb, _⟩
    · rw [h] at hg; simp [Value.ownBlock] at hg
    · rw [h] at hg
      simp [Value.ownBlock] at hg
      subst hg
      rw [HD.out] at hb
      cases hb
  case stop => exact fun _ _ _ _ _ h => h.elim
theorem pairs_any (vb vl : Value) (bs : List Br) (lv : List Int) (w : World) (hb : SegR w vb bs) (hl : Seg .u64 w vl lv) (hlv : lv.length ≤ 10000) (hbs : bs.length ≤ 10000) (hcd : Chd lv.length bs) :
    Calls Try.prog 57 #[.agg #[vb, vl]] w fun e w' => ∃ v', e = .returned v' ∧ OwnP 83 w.heap.size w' v' (prs bs lv) ∧ Below w.heap.size w w' :=
  callsIn_wide.1 (pairs_in vb vl bs lv w hb hl hlv hbs hcd)
end Go.Proofs.Ytjfnhjmdgfkgnaa

