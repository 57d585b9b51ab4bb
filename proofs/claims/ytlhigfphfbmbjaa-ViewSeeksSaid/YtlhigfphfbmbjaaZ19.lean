/- View: Copy. -/
import Derived.Test.YtlhigfphfbmbjaaZF
namespace Go.Proofs.Ytlhigfphfbmbjaa
open Go.RowKit Go.Proofs.Kit Go.Shelf
theorem rows_few {L : List Tr} {R : List Pr} {xs : List Nd} (h : At9 L R xs) {x : Nd} (hx : x ∈ xs) : x.row.length ≤ 1048576 := by
  obtain ⟨G, _, hi, _, _⟩ := h.ex
  obtain ⟨d, e, _⟩ := hi.suf x hx
  have hl : x.row.length ≤ (Kit.rowAt L x.tier x.adds).length := by rw [e]; simp
  refine Nat.le_trans hl ?_
  unfold Kit.rowAt
  cases hL : L[x.tier]? with
  | none => simp
  | some t =>
    have ht : t ∈ L := List.mem_of_getElem? hL
    have := h.good.1 t ht
    simp only []
    split
    · exact this.1.1.2
    · exact this.1.2.2
/-- One head's row is another one, that tells the same. -/
theorem VW.putRow {tv : TypeId} {rlo lo hi : Nat} {w : World} {a c : Nat} {o : Option Addr} {xs : List Nd} (h : VW tv rlo lo hi w a c o xs) {k : Nat} (hk : k < xs.length) {rb n : Nat} (hn : n = xs[k].row.length) (ho : OwnP 53 rb w (.slice (some ⟨rb, 0, none⟩) n n) xs[k].row) (hs : n ≤ 1000000000) (h1 : rlo ≤ rb) (h2 : rb < hi) :
    VW tv rlo lo hi (w.setCell ⟨xs[k].b, 0, none⟩ (.slice (some ⟨rb, 0, none⟩) n n)) a c o (xs.set k ⟨xs[k].b, rb, 0, n, xs[k].row, xs[k].tier, xs[k].adds⟩) := by
  have hm := h.nm xs[k] (List.getElem_mem hk)
  have hp := (h.nr xs[k] (List.getElem_mem hk)).pos
  have hO : ∀ j, j ≠ xs[k].b → (w.setCell ⟨xs[k].b, 0, none⟩ (.slice (some ⟨rb, 0, none⟩) n n)).heap[j]? = w.heap[j]? := fun j hj => Below.heap_setCell _ _ _ j hj
  have hT : ∀ j vs t, Blk w j vs t → t ≠ 111 → j ≠ xs[k].b := fun j vs t hj ht e => by
    subst e
    have e := (show w.heap[xs[k].b]? = _ from hj).symm.trans hm.blk
    injection e with e
    injection e with _ e _
    exact ht e
  have hb : (xs.set k ⟨xs[k].b, rb, 0, n, xs[k].row, xs[k].tier, xs[k].adds⟩).map Nd.b = xs.map Nd.b := by
    rw [List.map_set]
    apply List.ext_getElem (by simp)
    intro i h3 h4
    rw [List.getElem_set]
    split
    · rename_i e; subst e; simp
    · rfl
  have hR : ∀ {x : Nd}, NdR rlo hi w x → NdR rlo hi (w.setCell ⟨xs[k].b, 0, none⟩ (.slice (some ⟨rb, 0, none⟩) n n)) x := fun {x} hx => by
    obtain ⟨vs, hv⟩ := hx.blk
    exact hx.keep (hO _ (hT _ _ _ hv (by decide)))
  refine ⟨h.tne, ?_, h.alo, h.ahi, ?_, fun g e => h.qhi g (by simpa using e), fun y hy => ?_, fun y hy => ?_, by rw [hb]; exact h.dif, by simpa using h.top, h.low, by simpa using h.few⟩
  · rw [List.length_set]
    exact (hO _ (hT _ _ _ h.blk h.tne.2.1)).trans h.blk
  · have h3 : (xs.set k ⟨xs[k].b, rb, 0, n, xs[k].row, xs[k].tier, xs[k].adds⟩).map (fun x => ptr9 x.b) = xs.map fun x => ptr9 x.b := by
      have := congrArg (List.map ptr9) hb
      simpa [List.map_map, Function.comp_def] using this
    rw [h3, List.length_set]
    refine h.row.same fun g hg => hO g ?_
    rintro rfl
    exact h.row.ne_blk hm.blk (by decide) hg
  · obtain ⟨i, hi, rfl⟩ := List.getElem_of_mem hy
    rw [List.getElem_set]
    split
    · exact hR (NdR.new hn ho h1 h2 (by omega) hs)
    · exact hR (h.nr _ (List.getElem_mem _))
  · obtain ⟨i, hi, rfl⟩ := List.getElem_of_mem hy
    rw [List.length_set] at hi
    rw [List.getElem_set]
    split
    · refine ⟨hm.lo, hm.hi, ?_⟩
      have := hm.blk.set 0 (.slice (some ⟨rb, 0, none⟩) n n)
      subst hn
      simpa [Nd.rv] using this
    · rename_i e
      refine (h.nm _ (List.getElem_mem hi)).keep (hO _ fun e2 => e ?_)
      have hd := h.dif
      exact (nodup_at hd (i := i) (j := k) (by simpa using hi) (by simpa using hk) (by simpa using e2)).symm
/-- The first k heads have rows of their own. -/
structure CQI (s lo hi n k a c : Nat) (o : Option Addr) (rlo : Nat) (ys zs : List Nd) (w0 w : World) : Prop where
  vw : VW 97 rlo lo hi w a c o zs
  len : zs.length = n
  sim : ∀ i (h1 : i < zs.length) (h2 : i < ys.length), zs[i].row = ys[i].row ∧ zs[i].tier = ys[i].tier ∧ zs[i].adds = ys[i].adds
  new : ∀ i (h : i < zs.length), i < k → s ≤ zs[i].rb
  low : Below s w0 w
set_option maxRecDepth 100000 in
set_option maxHeartbeats 8000000 in
theorem vCopy_any {rlo lo hi : Nat} {w : World} {a : Nat} {L : List Tr} {R : List Pr} (h : VS 100 rlo lo hi w a L R) :
    Calls Try.prog 42 #[ptr9 a] w fun e w' => ∃ b, e = .returned (ptr9 b) ∧ VS 100 w.heap.size (w.heap.size + 1) w'.heap.size w' b L R ∧ Below w.heap.size w w' := by
  have HV := Lib.hid h
  have hwl : rlo ≤ w.heap.size := by have h1 := h.box; have := h.top; omega
  clear h
  go_enter Try.func42, Try.ntmps42
  go_wp2_with fail
  refine (copied_any HV.out).mono ?_
  rintro e w1 ⟨o1, c1, ys, a1, rfl, v1, at1, b1⟩
  have H1 := Lib.hid (And.intro v1 at1)
  have LW := Lib.hid b1
  have hs1 := b1.size
  clear v1 at1 b1
  obtain ⟨n, hn⟩ : ∃ n, n = ys.length := ⟨_, rfl⟩
  rw [← hn]
  have HN := Lib.hid hn
  clear hn
  go_wp2_with fail
  obtain ⟨w2, hw2⟩ : ∃ w2, w2 = w1.alloc (.cells #[.slice o1 n c1] 97) := ⟨_, rfl⟩
  have g2 : Gr w1 w2 := by rw [hw2]; exact Gr.alloc _ _
  have v2 : VW 97 rlo (w.heap.size + 1) w2.heap.size w2 w1.heap.size c1 o1 ys := by
    have k2 : Blk w2 w1.heap.size #[.slice o1 n c1] 97 := by rw [hw2]; exact Blk.new _ _ _
    rw [HN.out] at k2
    exact (H1.out.1.gr g2).rebox k2 (by decide) (by have h1 := H1.out.1.ahi; have h2 := H1.out.1.alo; omega) k2.lt g2.below.size (Nat.le_refl _)
  have HAT := Lib.hid H1.out.2
  have HX := Lib.hid (show CQI w.heap.size (w.heap.size + 1) w2.heap.size n 0 w1.heap.size c1 o1 rlo ys ys w w2 from ⟨v2, HN.out.symm, fun _ _ _ => ⟨rfl, rfl, rfl⟩, fun _ _ h => absurd h (Nat.not_lt_zero _), below_later LW.out g2.below⟩)
  have HD := Lib.hid (List.Pairwise.imp (fun {a b : Nd} (hab : a.b ≠ b.b) (e : a = b) => hab (by rw [e])) (List.pairwise_map.1 H1.out.1.dif))
  have hb1 := H1.out.1.ahi
  have hfew : n ≤ 1000 := by rw [HN.out]; exact H1.out.1.few
  rw [← hw2]
  clear H1 hw2 g2 v2 LW
  go_loopw [5, 15] (fun s5 s15 wr => ∃ (k : Nat) (zs : List Nd), k ≤ n ∧ s15 = .int .i64 (k : Int) ∧ Hid (CQI w.heap.size (w.heap.size + 1) wr.heap.size n k w1.heap.size c1 o1 rlo ys zs w wr)) (fun _ s15 _ => n - (intOf s15).toNat)
  case atStart => exact ⟨0, ys, Nat.zero_le _, rfl, HX⟩
  case round =>
    obtain ⟨k, zs, hk, rfl, HC⟩ := hrel
    by_cases hlt : k < n
    · have hkx : k < zs.length := by rw [HC.out.len]; exact hlt
      obtain ⟨q, rfl, hq1, hq2, hqc, hqm, hcell⟩ := HC.out.vw.q (by omega)
      have d2 := (hcell k hkx).1
      have xr := HC.out.vw.nr zs[k] (List.getElem_mem hkx)
      have xm := HC.out.vw.nm zs[k] (List.getElem_mem hkx)
      have e0 : wr.cell? ⟨zs[k].b, 0, none⟩ = some zs[k].rv := (xm.blk.cell 0).trans rfl
      have l0 := xm.blk.lt
      have HS := Lib.hid xr.seg
      have HM := Lib.hid xm
      have HR := Lib.hid (show zs[k].row.length ≤ 1000000000 from by
        have h1 := (HC.out.sim k hkx (by rw [← HN.out]; exact hlt)).1
        have h2 := rows_few HAT.out (List.getElem_mem (show k < ys.length by rw [← HN.out]; exact hlt))
        rw [h1]; omega)
      obtain ⟨bx, hbx⟩ : ∃ bx, bx = zs[k].b := ⟨_, rfl⟩
      have HBX := Lib.hid hbx
      rw [← hbx] at d2 e0 l0
      have hqn : n ≤ c1 := by rw [← HC.out.len]; exact hqc
      clear xr xm hcell hbx hq1 hqm hqc
      go_wp2_with fail
      obtain ⟨m, hm⟩ : ∃ m, m = zs[k].row.length := ⟨_, rfl⟩
      refine (vcopyOf_any _ _ _ HS.out HR.out).mono ?_
      rintro e w5 ⟨rfl, ho5, hs5, b5⟩
      rw [← hm] at ho5 ⊢
      have hk5 := HM.out.blk.later b5
      rw [← HBX.out] at hk5
      have f5 := hk5.frozen 0
      have e5 : w5.cell? ⟨bx, 0, none⟩ = some zs[k].rv := (hk5.cell 0).trans rfl
      have l5 := hk5.lt
      have H5 := Lib.hid (And.intro ho5 (And.intro hs5 b5))
      have HMM := Lib.hid hm
      clear hk5 ho5 hs5 b5 hm e0 l0
      go_wp2_with fail
      go_roundw
      case rel =>
        obtain ⟨ho5, hs5, b5⟩ := H5.out
        obtain rfl := HBX.out
        have hv := ((HC.out.vw.later b5).widen b5.size (Nat.le_refl _)).putRow hkx HMM.out ho5 (by rw [HMM.out]; exact HR.out) (Nat.le_trans hwl HC.out.low.size) hs5
        have hmlo := HM.out.lo
        refine ⟨k + 1, _, hlt, by go_num, Lib.hid ⟨by simpa using hv, by rw [List.length_set]; exact HC.out.len, fun i h1 h2 => ?_, fun i h1 h2 => ?_, Below.set9 (below_later HC.out.low b5) (by show w.heap.size ≤ zs[k].b; omega)⟩⟩
        · rw [List.length_set] at h1
          rw [List.getElem_set]
          split
          · rename_i e
            subst e
            exact HC.out.sim k h1 h2
          · exact HC.out.sim i h1 h2
        · rw [List.length_set] at h1
          rw [List.getElem_set]
          split
          · exact HC.out.low.size
          · exact HC.out.new i h1 (by omega)
      case measure => simp [intOf]; omega
    · obtain rfl : k = n := by omega
      have d3 : wr.cell? ⟨w1.heap.size, 0, none⟩ = some (.slice o1 k c1) := by
        have h := (HC.out.vw.blk.cell 0).trans rfl
        rw [HC.out.len] at h
        exact h
      have l3 := HC.out.vw.blk.lt
      go_wp2_with fail
      go_ret
      have hv := HC.out.vw
      have hg := Gr.alloc wr (.cells #[.slice o1 k c1] 100)
      have kb : Blk (wr.alloc (.cells #[.slice o1 k c1] 100)) wr.heap.size #[.slice o1 zs.length c1] 100 := by rw [HC.out.len]; exact Blk.new _ _ _
      have h2 := (hv.gr hg).rebox kb (by decide) (by have := HC.out.vw.alo; omega) kb.lt hg.below.size (Nat.le_refl _)
      refine ⟨wr.heap.size, rfl, ⟨c1, o1, zs, ⟨h2.tne, h2.blk, h2.alo, h2.ahi, h2.row, h2.qhi, fun x hx => ?_, h2.nm, h2.dif, h2.top, Nat.le_succ _, h2.few⟩, HAT.out.copy HD.out (by rw [HC.out.len, HN.out]) HC.out.sim⟩, below_later HC.out.low hg.below⟩
      have r := h2.nr x hx
      obtain ⟨i, hi, rfl⟩ := List.getElem_of_mem hx
      exact ⟨HC.out.new i hi (by rw [← HC.out.len]; exact hi), r.rhi, r.blk, r.cells, r.pos, r.le, r.max⟩
end Go.Proofs.Ytlhigfphfbmbjaa

