import Derived.Test.YtlhigfphfbmbjaaZE
import Derived.Test.YtlhigfphfbmbjaaRngV
import Derived.Test.YtlhigfphfbmbjaaN13
/- heads.rest: a function over which one ranges. -/
namespace Go.Proofs.Ytlhigfphfbmbjaa
open Go.RowKit Go.Proofs.Kit Go.Shelf
/-- All but a box of another type lies as it lay. -/
theorem VS.keepBut {tv tb : TypeId} {rlo lo hi : Nat} {w w' : World} {a b : Nat} {L : List Tr} {R : List Pr} {us : Array Value} (h : VS tv rlo lo hi w a L R) (hb : Blk w b us tb) (h1 : tb ≠ 53 ∧ tb ≠ 111 ∧ tb ≠ 109) (h2 : b ≠ a) (hz : w.heap.size ≤ w'.heap.size) (hs : ∀ k, rlo ≤ k → k < hi → k ≠ b → w'.heap[k]? = w.heap[k]?) : VS tv rlo lo hi w' a L R := by
  obtain ⟨c, o, xs, h, hat⟩ := h
  have hT : ∀ (k : Nat) us' t, Blk w k us' t → tb ≠ t → k ≠ b := fun k us' t hk ht e => by
    subst e
    have e := (show w.heap[k]? = _ from hb).symm.trans hk
    injection e with e
    injection e with _ e _
    exact ht e
  refine ⟨c, o, xs, ⟨h.tne, (hs _ (Nat.le_trans h.low h.alo) h.ahi (Ne.symm h2)).trans h.blk, h.alo, h.ahi, h.row.same fun g hg => hs g (Nat.le_trans h.low (h.row.ge g hg).1) (h.qhi g hg) (fun e => h.row.ne_blk hb (Ne.symm h1.2.2) (by rw [hg, e])), h.qhi, fun x hx => ?_, fun x hx => (h.nm x hx).keep (hs _ (Nat.le_trans h.low (h.nm x hx).lo) (h.nm x hx).hi (hT _ _ _ (h.nm x hx).blk h1.2.1)), h.dif, Nat.le_trans h.top hz, h.low, h.few⟩, hat⟩
  obtain ⟨us', hu⟩ := (h.nr x hx).blk
  exact (h.nr x hx).keep (hs _ (h.nr x hx).rlo (h.nr x hx).rhi (hT _ _ _ hu h1.1))
set_option maxRecDepth 100000 in
set_option maxHeartbeats 4000000 in
theorem rest_in (n : Nat) (hn : 1 ≤ n) (tv : TypeId) (rlo lo hi a bx bo : Nat) (L : List Tr) (R : List Pr) (hbx : hi ≤ bx) (hbo : bo < lo) :
    SeqV Fence.wide n Try.prog 94 #[ptr9 bx] (fun p : Pr => #[PV p.1 p.2]) (fun xs => xs = R) (fun _ => True) R.length lo (bx + 1) (fun k => rlo ≤ k ∧ k < bx + 1 ∧ k ≠ bo) (fun X => VS tv rlo lo hi X a L R ∧ Blk X bx #[ptr9 a] 130) (fun X => ∃ us, Blk X bo us 22) := by
  intro l J Jx W hJK hJM hY h0 hsz hK0
  have HJK := Lib.hid hJK
  have HJM := Lib.hid hJM
  have HY := Lib.hid hY
  have HK := Lib.hid hK0
  clear hJK hJM hY hK0
  refine callsIn_wide.2 ?_
  go_enter Try.func94, Try.ntmps94
  go_wp2
  go_loopg [] (R.length + 1) (fun kx wr => ∃ (D : Nat) (pre r : List Pr), r.length < kx ∧ D ≤ wr.heap.size ∧ bx + 1 ≤ D ∧ Hid (J D pre wr) ∧ Hid (pre ++ r = R) ∧ Hid (VS tv rlo lo hi wr a L r ∧ Blk wr bx #[ptr9 a] 130))
  case atStart => exact ⟨W.heap.size, [], R, Nat.lt_succ_self _, Nat.le_refl _, hsz, Lib.hid h0, Lib.hid rfl, HK⟩
  case round =>
    obtain ⟨D, pre, r, hkx, hDw, hbD, HJ, HP, HV⟩ := hrel
    have HF := Lib.hid (vfirst_any HV.out.1)
    have c0 : wr.cell? ⟨bx, 0, none⟩ = some (ptr9 a) := (HV.out.2.cell 0).trans rfl
    cases r with
    | nil =>
      simp only [hd9] at HF
      go_wp2_with (go_at_call 69; refine (HF.out).mono ?_; rintro e w1 ⟨rfl, b1⟩; have B1 := Lib.hid b1; clear b1)
      refine bodyPost_ret (results_none rfl _ _ _) rfl ⟨⟨_, rfl⟩, .inl ⟨D, pre, by have := HP.out; rwa [List.append_nil] at this, HJM.out _ _ _ _ HJ.out hDw hbD (Mid.of_gr (B1.out.trans (Gr.alloc _ _)))⟩⟩
    | cons p r =>
      obtain ⟨x, y⟩ := p
      simp only [hd9] at HF
      go_upto_region 1 with (go_at_call 69; refine (HF.out).mono ?_; rintro e w1 ⟨rfl, b1⟩; have B1 := Lib.hid b1; clear b1)
      have gA := B1.out.trans (Gr.alloc w1 (.cells #[.int .u64 x, .int .u64 y] 53))
      have hJ1 : J D pre (w1.alloc (.cells #[.int .u64 x, .int .u64 y] 53)) := HJM.out _ _ _ _ HJ.out hDw hbD (Mid.of_gr gA)
      have hD1 : D ≤ w1.heap.size := Nat.le_trans hDw B1.out.below.size
      obtain ⟨fn, tmps, assign, body, hy, hRd⟩ := HY.out D pre (x, y) _ hJ1 (by simp; omega) hbD (by rw [← HP.out]; simp)
      dsimp only at hy
      have V1 := Lib.hid (And.intro (HV.out.1.gr gA) (And.intro (HV.out.2.later gA.below) (Blk.new w1 #[.int .u64 x, .int .u64 y] 53)))
      have hKJ1 := HJK.out _ _ _ hJ1
      clear hJ1 gA
      refine (wpIn_wide (n := n)).1 ?_
      gi_wp2_with fail
      refine hRd.mono ?_
      rintro e W3 (⟨rfl, hJ3, hS3⟩ | ⟨rfl, hJ3⟩)
      · have hB := V1.out.2.1.lt
        obtain ⟨us, hus⟩ := hKJ1
        have hbx1 := V1.out.1.box
        have v3 := V1.out.1.keepBut (w' := W3) hus (by decide) (by omega) hS3.1 (fun k h1 h2 h3 => hS3.2 k (Nat.lt_of_lt_of_le h2 V1.out.1.top) (.inl ⟨h1, by omega, h3⟩))
        have k3 : Blk W3 bx #[ptr9 a] 130 := (hS3.2 bx hB (.inl ⟨by omega, Nat.lt_succ_self _, by omega⟩)).trans V1.out.2.1
        have p3 : Blk W3 w1.heap.size #[.int .u64 x, .int .u64 y] 53 := (hS3.2 w1.heap.size (by simp) (.inr hD1)).trans V1.out.2.2
        have c3 : W3.cell? ⟨bx, 0, none⟩ = some (ptr9 a) := (k3.cell 0).trans rfl
        have e0 : W3.cell? ⟨w1.heap.size, 0, none⟩ = some (.int .u64 x) := (p3.cell 0).trans rfl
        have e1 : W3.cell? ⟨w1.heap.size, 1, none⟩ = some (.int .u64 y) := (p3.cell 1).trans rfl
        have HR := Lib.hid (run_rest v3.run)
        have HGO := Lib.hid (vgoTo_any (far_passed (x, y)) v3)
        have hb3 : bx + 1 ≤ W3.heap.size := Nat.le_trans hB hS3.1
        have H3 := Lib.hid (And.intro hJ3 k3)
        clear hJ3 hS3 v3 k3 p3 hus hbx1
        gi_wp2_with fail
        go_wp2_with (go_at_call 66; refine (HGO.out).mono ?_; rintro e W4 ⟨rfl, v4, m4⟩; have H4 := Lib.hid (And.intro v4 m4); clear v4 m4)
        go_roundg (r.length + 1)
        case measure => simp at hkx; omega
        case rel =>
          have h4 := H4.out.1
          rw [HR.out] at h4
          refine ⟨W3.heap.size, pre ++ [(x, y)], r, Nat.lt_succ_self _, H4.out.2.size, hb3, Lib.hid (HJM.out _ _ _ _ H3.out.1 (Nat.le_refl _) hb3 (H4.out.2.mono fun k hk => ⟨hk.1, by omega⟩)), Lib.hid (by rw [List.append_assoc]; exact HP.out), Lib.hid ⟨h4, H4.out.2.blk H3.out.2 (fun hk => by omega)⟩⟩
      · gi_wp2_with fail
        go_wp2
        refine bodyPost_ret (results_none rfl _ _ _) rfl ⟨⟨_, rfl⟩, .inr ⟨_, trivial, hJ3⟩⟩
end Go.Proofs.Ytlhigfphfbmbjaa


/- View: Rest. -/
namespace Go.Proofs.Ytlhigfphfbmbjaa
open Go.RowKit Go.Proofs.Kit Go.Shelf
theorem VW.rebox {tv tv' : TypeId} {rlo lo hi hi' : Nat} {w : World} {a b c : Nat} {o : Option Addr} {xs : List Nd} (h : VW tv rlo lo hi w a c o xs) (hb : Blk w b #[.slice o xs.length c] tv') (ht : tv' ≠ 53 ∧ tv' ≠ 111 ∧ tv' ≠ 109) (h1 : lo ≤ b) (h2 : b < hi') (h3 : hi ≤ hi') (h4 : hi' ≤ w.heap.size) : VW tv' rlo lo hi' w b c o xs := by
  have k := h.widen h3 h4
  exact ⟨ht, hb, h1, h2, k.row, k.qhi, k.nr, k.nm, k.dif, k.top, k.low, k.few⟩
set_option maxRecDepth 100000 in
theorem vrest_any (a : Nat) (w : World) : Calls Try.prog 73 #[ptr9 a] w fun e w' => e = .returned (.func (.func 94) #[] #[ptr9 w.heap.size]) ∧ w' = w.alloc (.cells #[ptr9 a] 130) := by
  have hmf : ∀ (fn : Fn) (first cap : Array Value) (w : World), (Instr.makeFunc fn first cap).run Try.prog w = .ok (.func fn first cap) w := fun _ _ _ _ => rfl
  go_enter Try.func73, Try.ntmps73
  go_wp2
  go_ret
  exact ⟨rfl, rfl⟩
attribute [local go_sem] Oper.semAt_some
/-- What holds between two rounds of Rest's loop. -/
structure RI (w : World) (hi2 D : Nat) (pre : List Pr) (X : World) : Prop where
  out : ∃ o c, Blk X w.heap.size #[.slice o pre.length c] 22 ∧ OwnP 53 hi2 X (.slice o pre.length c) pre ∧ (∀ g, Value.ownBlock (.slice o pre.length c) = some g → g < D)
  low : Below w.heap.size w X
theorem RI.mid {w X X' : World} {lo hi2 D : Nat} {pre : List Pr} (h : RI w hi2 D pre X) (hl : w.heap.size < lo) (hm : Mid lo hi2 X X') : RI w hi2 D pre X' := by
  obtain ⟨o, c, h1, h2, h3⟩ := h.out
  refine ⟨⟨o, c, hm.blk h1 (fun k => by omega), h2.same fun g hg => hm.same g (fun k => by have := (h2.lt g hg).1; omega) (h2.lt g hg).2, h3⟩, ?_⟩
  exact h.low.trans (hm.below (fun k hk => by omega) h.low.size)
theorem RI.aside {w X X' : World} {B hi2 D : Nat} {pre : List Pr} (h : RI w hi2 D pre X) (ha : Kit.Aside B X X') (hB : w.heap.size ≤ B) : RI w hi2 D pre X' := by
  obtain ⟨o, c, h1, h2, h3⟩ := h.out
  exact ⟨⟨o, c, ha.blk h1, ha.ownP h2, h3⟩, ha.below h.low hB (Nat.le_refl _)⟩
set_option maxRecDepth 100000 in
set_option maxHeartbeats 8000000 in
theorem vRest_in {rlo lo hi : Nat} {w : World} {a : Nat} {L : List Tr} {R : List Pr} (h : VS 100 rlo lo hi w a L R) (hl : R.length ≤ 1000000) :
    CallsIn Fence.wide 6 Try.prog 41 #[ptr9 a] w fun e w' => ∃ v', e = .returned v' ∧ OwnP 53 w.heap.size w' v' R ∧ Below w.heap.size w w' := by
  obtain ⟨i0, hi0, hz0, hz1, hz2⟩ := infoP
  refine callsIn_of_wp_marks Try.func41 rfl trivial ?_ rfl
  simp only [Try.ntmps41, List.size_toArray, List.length_cons, List.length_nil, Nat.reduceAdd, Nat.reduceSub, Array.replicate_succ, Array.replicate_zero, List.push_toArray, List.append_toArray, List.nil_append, List.cons_append]
  have HV := Lib.hid h
  clear h
  gi_wp2_with fail
  have gA := Gr.alloc w (.cells #[.slice none 0 0] 22)
  refine ⟨trivial, (callsIn_wide.2 (copied_any (HV.out.gr gA))).mono ?_⟩
  rintro e w1 ⟨o1, c1, ys, a1, rfl, v1, at1, b1⟩
  have hbox := HV.out.box
  have hwl : rlo ≤ w.heap.size := by have := HV.out.top; omega
  have KB := Lib.hid ((Blk.new w #[.slice none 0 0] 22).later b1)
  have LW := Lib.hid (below_later gA.below b1)
  have hs1 : w.heap.size + 1 ≤ w1.heap.size := by have := b1.size; simpa using this
  have H1 := Lib.hid (And.intro v1 at1)
  clear v1 at1 b1 gA
  gi_wp2_with fail
  obtain ⟨w2, hw2⟩ : ∃ w2, w2 = w1.alloc (.cells #[.slice o1 ys.length c1] 97) := ⟨_, rfl⟩
  have g2 : Gr w1 w2 := by rw [hw2]; exact Gr.alloc _ _
  have k2 : Blk w2 w1.heap.size #[.slice o1 ys.length c1] 97 := by rw [hw2]; exact Blk.new _ _ _
  have s2 : w2.heap.size = w1.heap.size + 1 := by rw [hw2]; simp
  have v2 : VS 97 rlo (w.heap.size + 1 + 1) (w1.heap.size + 1) w2 w1.heap.size L R := by
    refine ⟨c1, o1, ys, ?_, H1.out.2⟩
    have h := (H1.out.1.gr g2).rebox k2 (hi' := w1.heap.size + 1) (by decide) (by have h1 := H1.out.1.ahi; have h2 := H1.out.1.alo; simp at h1 h2; simp; omega) (Nat.lt_succ_self _) (Nat.le_succ _) (by omega)
    simpa using h
  have KB2 := Lib.hid (KB.out.later g2.below)
  have LW2 := Lib.hid (below_later LW.out g2.below)
  have HV2 := Lib.hid v2
  have S2 := Lib.hid s2
  rw [← hw2]
  clear hw2 g2 k2 s2 v2
  refine ⟨trivial, (callsIn_wide.2 (vrest_any w1.heap.size w2)).mono ?_⟩
  rintro e w3 ⟨rfl, rfl⟩
  obtain ⟨w3, hw3⟩ : ∃ w3, w3 = w2.alloc (.cells #[ptr9 w1.heap.size] 130) := ⟨_, rfl⟩
  have g3 : Gr w2 w3 := by rw [hw3]; exact Gr.alloc _ _
  have k3 : Blk w3 w2.heap.size #[ptr9 w1.heap.size] 130 := by rw [hw3]; exact Blk.new _ _ _
  have s3 : w3.heap.size = w2.heap.size + 1 := by rw [hw3]; simp
  rw [← hw3]
  have v3 := HV2.out.gr g3
  have I0 : RI w (w2.heap.size + 1) (w3.heap.size + 2) [] w3 := ⟨⟨none, 0, KB2.out.later g3.below, OwnP.nil _ _ _, fun g e => by cases e⟩, below_later LW2.out g3.below⟩
  have hseq := rest_in 5 (by decide) 97 rlo (w.heap.size + 1 + 1) (w1.heap.size + 1) w1.heap.size w2.heap.size w.heap.size L R (by have := S2.out; omega) (by omega)
  have HK3 := Lib.hid (And.intro v3 k3)
  have HI0 := Lib.hid I0
  have S3 := Lib.hid s3
  clear hw3 g3 k3 s3 v3 I0
  gi_wp2_with fail
  refine rangeV (α := Pr) rfl (by decide) (gf := 94) (lb := #[ptr9 w2.heap.size]) rfl trivial (enters_of Try.func94 (by kernel_rfl) rfl) hseq (by have := S3.out; omega) (fun k hk => hk.2.1) HK3.out (fun X X' h hb => ⟨h.1.later hb, h.2.later hb⟩) (fun _ => rfl)
    (fun D pre W => RI w (w2.heap.size + 1) D pre W) (fun _ _ _ => False) (fun D pre X X' h ha => h.aside ha (by have := S2.out; have := S3.out; omega)) (fun _ _ _ _ h _ => h) (fun D pre X h => by obtain ⟨o, c, h1, _⟩ := h.out; exact ⟨_, h1⟩) (fun D pre X X' h _ _ hm => h.mid (by omega) hm) HI0.out
    (fun x r => { tmps := #[ptr9 a, undef, .slice none 0 0, .pointer (some ⟨w.heap.size, 0, none⟩), .pointer (some ⟨w1.heap.size, 0, none⟩), .pointer (some ⟨r, 0, none⟩), ptr9 a, .bool false, ptr9 a, .pointer (some ⟨a, 0, none⟩), .pointer (some ⟨a, 0, none⟩), .agg #[.slice o1 ys.length c1], .func (.func 94) #[] #[ptr9 w2.heap.size], PV x.1 x.2, undef, undef, undef, undef, undef], defers := [] })
    (fun x r W => Blk W r #[.int .u64 x.1, .int .u64 x.2] 53) (fun x r X X' h ha => ha.blk h) ?assign ?body ?done ?stop
  case assign =>
    rintro l ⟨x, y⟩ W K hK
    dsimp only at hK ⊢
    gi_wp2
    exact hK _ _ (Gr.alloc _ _).below (Nat.le_refl _) (Blk.new _ _ _)
  case body =>
    rintro lp D pre ⟨x, y⟩ r W hI hDW hD2 hlen hn hR
    obtain ⟨o, c, h1, h2, h3⟩ := hI.out
    obtain ⟨m, hm⟩ : ∃ m, m = pre.length := ⟨_, rfl⟩
    rw [← hm] at h1 h2 h3 hlen
    have c8 := h1.cell 0
    have f8 := h1.frozen 0
    have r0 := hR.cell 0
    have r1 := hR.cell 1
    have l8 := h1.lt
    have lr := hR.lt
    simp only [List.getElem?_toArray, List.getElem?_cons_zero, List.getElem?_cons_succ] at c8 r0 r1
    have HI := Lib.hid hI
    have H1 := Lib.hid h1
    have H2 := Lib.hid h2
    have H3 := Lib.hid h3
    have HN := Lib.hid hn
    have HM := Lib.hid hm
    have HO2 := Lib.hid (h2.alloc (.cells #[.int .u64 x, .int .u64 y] 53))
    have hml : m ≤ 1000000 := by omega
    have hD2' := hD2
    have hs3 := S3.out
    have HD := Lib.hid (And.intro hDW (And.intro hD2 hs3))
    clear hI h1 h2 h3 hn hR hm hDW hD2 hD2' hs3
    gi_wp2_with (gi_at_builtin; refine wpListIn_append_own _ rfl _ _ 22 rfl (w2.heap.size + 1) 53 i0 (.agg #[.int .u64 0, .int .u64 0]) 2 16 Try.underlying22 hi0 hz0 hz1 hz2 rfl (by decide) _ _ _ rfl (by have := HO2.out.2; rw [← HM.out] at this; exact this) ⟨W.heap.size, 0, none⟩ 1 1 (flat [(x, y)]) rfl rfl ?qc1 ?qc2 ?qc3 ?qc4 ?qc5 ?_)
    case qc1 => exact cells_new _ _ _ _
    case qc2 => exact flat_one _
    case qc3 => unfold maxLen; omega
    case qc4 => omega
    case qc5 => have := HD.out; simp; omega
    intro v' w5 hown hgrow _
    have hO : OwnP 53 (w2.heap.size + 1) w5 v' (pre ++ [(x, y)]) := by
      refine ⟨by rw [List.length_append]; have := HM.out; simp; omega, ?_⟩
      rw [List.length_append, flat_append, ← HM.out]
      exact hown
    obtain ⟨o5, c5, rfl⟩ := hO.shape
    have ne8 : (Value.slice o m c).ownBlock ≠ some w.heap.size := H2.out.ne_blk H1.out (by decide)
    have i8 : Blk w5 w.heap.size _ 22 := (H1.out.alloc _).grown hgrow ne8
    have f8' := i8.frozen 0
    have c8' := i8.cell 0
    have l8' := i8.lt
    simp only [List.getElem?_toArray, List.getElem?_cons_zero] at c8'
    have lo5 : Below w.heap.size w w5 := (HI.out.low.alloc HI.out.low.size _).grown hgrow (by have := HI.out.low.size; simp; omega) (fun k hk => by have h1 := (HO2.out.lt k hk).1; have h2 := HD.out; have h3 := S2.out; omega)
    have hk5 : Keep2 w3.heap.size W w5 := ((Keep2.refl _ _).alloc HN.out.1 (.cells #[.int .u64 x, .int .u64 y] 53)).trans (.of_grown hgrow (HN.out.alloc _) ((HN.out.alloc (.cells #[.int .u64 x, .int .u64 y] 53)).ownP HO2.out))
    have hkp : ∀ k, k < W.heap.size → (rlo ≤ k ∧ k < w2.heap.size + 1 ∧ k ≠ w.heap.size) ∨ D ≤ k → w5.heap[k]? = W.heap[k]? := fun k hk hh => by
      refine (hgrow.block k (by simp; omega) (fun e => ?_)).trans (Below.heap_alloc _ _ _ hk)
      have h1 := (H2.out.lt k e.symm).1
      have h2 := H3.out k e.symm
      omega
    have ne5 : (Value.slice o5 (pre ++ [(x, y)]).length c5).ownBlock ≠ some w.heap.size := hO.ne_blk i8 (by decide)
    have hO' : OwnP 53 (w2.heap.size + 1) (w5.setCell ⟨w.heap.size, 0, none⟩ (.slice o5 (pre ++ [(x, y)]).length c5)) (.slice o5 (pre ++ [(x, y)]).length c5) (pre ++ [(x, y)]) := hO.same fun g hg => Below.heap_setCell _ _ _ _ (fun e => ne5 (by rw [hg, e]))
    have HOF := Lib.hid hO'
    have J8 := Lib.hid i8
    have LO5 := Lib.hid lo5
    have HK5 := Lib.hid hk5
    have HKP := Lib.hid hkp
    have hz5 := hgrow.size
    have n8 := HN.out.blk (show Blk W w.heap.size _ 22 from H1.out)
    have HN8 := Lib.hid n8
    obtain ⟨n5, hn5⟩ : ∃ n, n = (pre ++ [(x, y)]).length := ⟨_, rfl⟩
    rw [← hn5] at HOF ⊢
    have HN5 := Lib.hid hn5
    have hz5' : W.heap.size ≤ w5.heap.size := by simp at hz5; omega
    clear hown hgrow hO hO' i8 lo5 hk5 hkp ne5 ne8 n8 hn5 hz5
    gi_wp2_with fail
    have hd := HD.out
    refine ⟨HK5.out.setCell HN8.out.1 HN8.out.2 _, ⟨⟨o5, c5, ?_, ?_, fun g e => ?_⟩, Below.set9 LO5.out (Nat.le_refl _)⟩, by simpa using hz5', fun k hk hh => ?_⟩
    · rw [← HN5.out]
      simpa using J8.out.set 0 (.slice o5 n5 c5)
    · rw [← HN5.out]
      exact HOF.out
    · rw [← HN5.out] at e
      exact (HOF.out.lt g e).2
    · refine (Below.heap_setCell _ _ _ _ ?_).trans (HKP.out k hk hh)
      show k ≠ w.heap.size
      have h3 := S2.out
      omega
  case done =>
    rintro D D' ys' W rfl hI hD hK
    obtain ⟨o, c, h1, h2, h3⟩ := hI.out
    have k8 := h1.cell 0
    simp only [List.getElem?_toArray, List.getElem?_cons_zero] at k8
    have HI := Lib.hid hI
    have H1 := Lib.hid h1
    have H2 := Lib.hid h2
    have HK := Lib.hid hK
    clear hI h1 h2 hK h3
    gi_wp2
    have hs2 := S2.out
    have hs3 := S3.out
    refine ⟨by simp, .inl ⟨_, _, rfl, run_takeDeferred HK.out, ?_⟩⟩
    refine ⟨.slice o ys'.length c, by simp [results, Try.results41], .slice o ys'.length c, rfl, ?_, HI.out.low.trans (below_put' W _ (by omega))⟩
    refine (H2.out.mono (B' := w.heap.size) (by omega)).same fun g hg => World.putObj_heap_other ?_
    rintro rfl
    have := H2.out.2.2
    rcases this with ⟨h, _⟩ | ⟨g', cap, cur, h, _, hb, _⟩
    · rw [h] at hg; simp [Value.ownBlock] at hg
    · rw [h] at hg
      simp [Value.ownBlock] at hg
      subst hg
      rw [HK.out] at hb
      cases hb
  case stop =>
    rintro D c pre W _ h
    exact h.elim
end Go.Proofs.Ytlhigfphfbmbjaa

