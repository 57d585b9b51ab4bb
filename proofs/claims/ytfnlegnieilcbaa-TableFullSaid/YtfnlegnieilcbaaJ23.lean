/- The reference's Lay. -/
import Derived.Test.YtfnlegnieilcbaaJ22
namespace Go.Proofs.Kit
open Go.RowKit
/-- A table that is laid: its record, the result's record, its slots; all else lies as it lay. -/
structure LayT (tt ti : TypeId) (w0 : World) (vT vS : Value) (lS : List Value) (W : World) : Prop where
  kr : Blk W w0.heap.size #[.slice none 0 0, .slice none 0 0] tt
  kb : Blk W (w0.heap.size + 1 + 1) #[vT, vS] tt
  oS : Ow ti w0.heap.size W vS lS
  low : Below w0.heap.size w0 W
section
variable {tt ti : TypeId} {w0 W W' : World} {vT vS : Value} {lS : List Value}
theorem LayT.dr (h : LayT tt ti w0 vT vS lS W) (g : Dr W W') : LayT tt ti w0 vT vS lS W' := ⟨h.kr.gr (Gr.of_dr g), h.kb.gr (Gr.of_dr g), h.oS.gr (Gr.of_dr g), below_gr h.low (Gr.of_dr g) h.low.size⟩
theorem LayT.cells (h : LayT tt ti w0 vT vS lS W) : W.cell? ⟨w0.heap.size + 1 + 1, 0, none⟩ = some vT ∧ W.cell? ⟨w0.heap.size + 1 + 1, 1, none⟩ = some vS := ⟨h.kb.cell 0, h.kb.cell 1⟩
theorem LayT.store {S : List Int} {o : Option Addr} {m c p : Nat} (h : LayT tt ti w0 vT (.slice o m c) (S.map (.int .i64)) W) (hp : p < S.length) (h1 : ti ≠ tt) :
    ∃ g, o = some ⟨g, 0, none⟩ ∧ m = S.length ∧ w0.heap.size ≤ g ∧ g < W.heap.size ∧ (∀ j (hj : j < S.length), W.cell? ⟨g, j, none⟩ = some (.int .i64 S[j])) ∧ W.frozen? ⟨g, p, none⟩ = false ∧
      ∀ y : Int, LayT tt ti w0 vT (.slice o m c) ((S.set p y).map (.int .i64)) (W.setCell ⟨g, p, none⟩ (.int .i64 y)) := by
  obtain ⟨g, cap, e, h3, h4, h5, h6, h7, h8, _⟩ := h.oS.set (i := p) (by simpa using hp) (.int .i64 0)
  rw [List.length_map] at e h3
  injection e with e1 e2 e3
  subst e1 e2 e3
  refine ⟨g, rfl, rfl, h5, h6, fun j hj => ?_, h8, fun y => ?_⟩
  · obtain ⟨g', cap', e', _, _, _, _, h9, _, _⟩ := h.oS.set (i := j) (by simpa using hj) (.int .i64 0)
    injection e' with e1 _ _
    injection e1 with e1
    injection e1 with e1 _ _
    subst e1
    rwa [List.getElem_map] at h9
  · obtain ⟨g', cap', e', _, _, _, _, _, _, h9⟩ := h.oS.set (i := p) (by simpa using hp) (.int .i64 y)
    injection e' with e1 _ _
    injection e1 with e1
    injection e1 with e1 _ _
    subst e1
    refine ⟨h.kr.other (fun e => ?_) _, h.kb.other (fun e => ?_) _, by rw [List.map_set]; exact h9, h.low.setCell h5 _⟩
    · exact h.oS.ne_blk h.kr h1 (by simp [Value.ownBlock]; exact e.symm)
    · exact h.oS.ne_blk h.kb h1 (by simp [Value.ownBlock]; exact e.symm)
theorem LayT.fin (h : LayT tt ti w0 vT vS lS W) (h1 : ti ≠ tt) : Blk ((W.setCell ⟨w0.heap.size, 0, none⟩ vT).setCell ⟨w0.heap.size, 1, none⟩ vS) w0.heap.size #[vT, vS] tt ∧
    Ow ti w0.heap.size ((W.setCell ⟨w0.heap.size, 0, none⟩ vT).setCell ⟨w0.heap.size, 1, none⟩ vS) vS lS ∧ Below w0.heap.size w0 ((W.setCell ⟨w0.heap.size, 0, none⟩ vT).setCell ⟨w0.heap.size, 1, none⟩ vS) := by
  have kR := (h.kr.set 0 vT).set 1 vS
  simp only [List.setIfInBounds_toArray, List.set_cons_zero, List.set_cons_succ] at kR
  exact ⟨kR, h.oS.same fun g hg => (Below.heap_setCell _ _ _ _ (by rintro rfl; exact h.oS.ne_blk h.kr h1 hg)).trans (Below.heap_setCell _ _ _ _ (by rintro rfl; exact h.oS.ne_blk h.kr h1 hg)), (h.low.setCell (by simp) _).setCell (by simp) _⟩
end
theorem layT_new (tt ti : TypeId) (w : World) {vT : Value} {m : Nat} (hm : m ≤ 1000000000) (z : Value) : LayT tt ti w vT (.slice (some ⟨w.heap.size + 1, 0, none⟩) m m) (List.replicate m z)
    (((w.alloc (.cells #[.slice none 0 0, .slice none 0 0] tt)).alloc (.cells (Array.replicate m z) ti)).alloc (.cells #[vT, .slice (some ⟨w.heap.size + 1, 0, none⟩) m m] tt)) := by
  obtain ⟨h1, h2, h3, h4⟩ := blks3 w #[.slice none 0 0, .slice none 0 0] (Array.replicate m z) #[vT, .slice (some ⟨w.heap.size + 1, 0, none⟩) m m] tt ti tt
  exact ⟨h1, h3, Ow.of_rep h2 (by omega) hm, ⟨h4.1, h4.2, h4.3, h4.4, h4.5⟩⟩
end Go.Proofs.Kit
namespace Go.Proofs.Ytfnlegnieilcbaa
open Go.RowKit Go.Proofs.Kit Go.Shelf

set_option maxHeartbeats 4000000 in
theorem rlay_any (vT : Value) (T : List ByteArray) (m : Nat) (w : World) (hT : Sl w vT (T.map Value.string)) (hm : m ≤ 1000000) (hlt : T.length < m) (hnd : T.Nodup) (hsz : ∀ s ∈ T, s.size ≤ 9223372036854775807) :
    Calls Try.prog 25 #[vT, .int .i64 (m : Int)] w fun e w' => ∃ vS' S', e = .returned (.agg #[vT, vS']) ∧ Ow 3 w.heap.size w' vS' (S'.map (Value.int .i64)) ∧ S'.length = m ∧ Part hsh T S' T.length ∧ Below w.heap.size w w' := by
  have HT := Lib.hid hT
  have HND := Lib.hid hnd
  have HZ := Lib.hid hsz
  obtain ⟨oT, cT, rfl, _, _, _⟩ := hT.mshape
  obtain ⟨q, hq'⟩ : ∃ q, q = T.length := ⟨_, rfl⟩
  rw [← hq'] at hlt HT ⊢
  have HQ := Lib.hid hq'
  clear hT hq' hnd hsz
  have mk := mkI m (by omega)
  go_enter Try.func25, Try.ntmps25
  go_wp2
  have hL0 := layT_new 25 3 w (vT := .slice oT q cT) (m := m) (by omega) (.int .i64 0)
  rw [show List.replicate m (Value.int .i64 0) = (List.replicate m (0 : Int)).map (Value.int .i64) by simp] at hL0
  obtain ⟨W, hW⟩ : ∃ W, W = ((w.alloc (.cells #[.slice none 0 0, .slice none 0 0] 25)).alloc (.cells (Array.replicate m (Value.int .i64 0)) 3)).alloc (.cells #[.slice oT q cT, .slice (some ⟨w.heap.size + 1, 0, none⟩) m m] 25) := ⟨_, rfl⟩
  rw [← hW] at hL0
  obtain ⟨oS, hoS⟩ : ∃ oS, oS = some (⟨w.heap.size + 1, 0, none⟩ : Addr) := ⟨_, rfl⟩
  try rw [← hW]
  rw [← hoS] at hL0 ⊢
  have HL0 := Lib.hid hL0
  have HP0 : Hid (Part hsh T (List.replicate m (0 : Int)) 0) := Lib.hid (Part.none hsh T (fun x hx => (List.mem_replicate.1 hx).2))
  clear hL0 hW hoS mk
  go_loopw [6, 7, 8, 15] (fun _ _ _ i wr => ∃ (k : Nat) (Sk : List Int), k ≤ q ∧ i = .int .i64 (k : Int) ∧ Hid (Sk.length = m) ∧ Hid (Part hsh T Sk k) ∧ Hid (LayT 25 3 w (.slice oT q cT) (.slice oS m m) (Sk.map (Value.int .i64)) wr)) (fun _ _ _ i _ => q - (intOf i).toNat)
  case atStart => exact ⟨0, _, Nat.zero_le _, rfl, Lib.hid (by simp), HP0, HL0⟩
  case round =>
    clear HP0 HL0
    obtain ⟨k, Sk, hk, rfl, hl, hP, hLk⟩ := hrel
    by_cases hkq : k < q
    · have hkT : k < T.length := by have := HQ.out; omega
      have hm0 : 0 < m := by omega
      obtain ⟨p0, hp0⟩ := seatO_some (hs := hsh) (T := T) (s := T[k]) (hP.out.free (by have := hl.out; omega))
      have hF := seat_new hP.out (fun j hj e => by have := (List.getElem_inj HND.out).1 e; omega) hp0
      have hPn := hP.out.add hkT hF
      have hnum := hP.out.num
      have hz := HZ.out _ (List.getElem_mem hkT)
      obtain ⟨bT, fT, rfl, hbT, hcT⟩ := (HT.out.later hLk.out.low).at hkT
      obtain ⟨s, hs⟩ : ∃ s, s = T[k] := ⟨_, rfl⟩
      rw [← hs] at hcT hF hz
      have hlt := hsh_lt s
      have hcall := rhash_any s hz
      obtain ⟨i0, hi0, rfl, h0, hne⟩ := hF
      obtain ⟨h, hh⟩ : ∃ h, h = hsh s := ⟨_, rfl⟩
      rw [hl.out] at hi0 hne h0 hPn
      rw [← hh] at hlt hcall hPn hne h0
      obtain ⟨f, hf⟩ : ∃ f, f = h % m := ⟨_, rfl⟩
      have q1 : IntKind.u64.wrap (m : Int) = (m : Int) := by rw [IntKind.wrap_u64]; omega
      have q2 : IntKind.i64.wrap ((h : Int) % (m : Int)) = (f : Int) := by have : f < m := by rw [hf]; exact Nat.mod_lt _ hm0
                                                                           rw [← Int.natCast_emod, ← hf, IntKind.wrap_i64]; omega
      have q4 : ((m : Int) == 0) = false := by rw [beq_eq_false_iff_ne]; omega
      have HPN := Lib.hid hPn
      have HNE := Lib.hid hne
      have H0 := Lib.hid h0
      have HF := Lib.hid hf
      have HNUM := Lib.hid hnum
      clear hs hp0 hPn hne h0 hh hf hnum hlt
      go_wp2_with (go_at_call 17; refine (hcall _).mono ?_; rintro e w' ⟨rfl, g⟩)
      have hL1 := hLk.out.dr g
      obtain ⟨gS, rfl, -, hg0, hgl, hcl, hfr, hset⟩ := hL1.store (p := prb h m i0) (by rw [hl.out]; exact prb_lt hm0 _ _) (by decide)
      obtain ⟨d0, d1⟩ := hL1.cells
      have HCL := Lib.hid hcl
      have HSET := Lib.hid (hset ((k : Int) + 1))
      clear hset hcl hL1 g hcall
      go_loopg [8] i0 (fun kx a wr' => ∃ i : Nat, a = .int .i64 ((prb h m i : Nat) : Int) ∧ i ≤ i0 ∧ i0 - i ≤ kx ∧ wr' = w')
      case atStart => exact ⟨0, by unfold prb; rw [Nat.add_zero, ← HF.out], Nat.zero_le _, by omega, rfl⟩
      case round =>
        obtain ⟨i, rfl, hi, hkx, rfl⟩ := hrel
        by_cases hii : i < i0
        · obtain ⟨p, hp⟩ : ∃ p, p = prb h m i := ⟨_, rfl⟩
          have hpm : p < m := by rw [hp]; exact prb_lt hm0 _ _
          have hpS : p < Sk.length := by rw [hl.out]; exact hpm
          have d := HCL.out p hpS
          have hy0 := HNE.out i hii
          rw [← hp, at0_lt hpS] at hy0
          have hy1 := (HNUM.out _ (List.getElem_mem hpS)).1
          have hnx : prb h m (i + 1) = (p + 1) % m := by rw [hp]; unfold prb; rw [Nat.mod_add_mod, Nat.add_assoc]
          obtain ⟨y, hy⟩ : ∃ y, y = Sk[p] := ⟨_, rfl⟩
          rw [← hy] at d hy0 hy1
          rw [← hp]
          obtain ⟨p1, hp1⟩ : ∃ p1, p1 = (p + 1) % m := ⟨_, rfl⟩
          have r1 : ((p : Int) + 1) % (m : Int) = (p1 : Int) := by rw [hp1]; simp
          rw [← hp1] at hnx
          have HNX := Lib.hid hnx
          have hp1m : p1 < m := by rw [hp1]; exact Nat.mod_lt _ hm0
          have q5 : (p : Int) < (m : Int) := by omega
          have h1 : decide (0 < y) = true := by simp; omega
          clear hp hy hnx hp1 hy0 hy1
          go_wp2
          go_roundg (i0 - (i + 1))
          case measure => omega
          case rel => exact ⟨i + 1, by rw [HNX.out, ← r1], by omega, Nat.le_refl _, rfl⟩
        · obtain rfl : i = i0 := by omega
          obtain ⟨p, hp⟩ : ∃ p, p = prb h m i := ⟨_, rfl⟩
          have hpm : p < m := by rw [hp]; exact prb_lt hm0 _ _
          have hpS : p < Sk.length := by rw [hl.out]; exact hpm
          have d := HCL.out p hpS
          have hy0 := H0.out
          rw [← hp, at0_lt hpS] at hy0
          rw [hy0] at d
          rw [← hp] at HSET HPN hfr ⊢
          have q5 : (p : Int) < (m : Int) := by omega
          clear hp hy0
          go_wp2
          go_roundw
          case rel => exact ⟨k + 1, Sk.set p ((k : Int) + 1), by omega, by go_num, Lib.hid (by rw [List.length_set]; exact hl.out), HPN, HSET⟩
          case measure => simp [intOf]; omega
    · obtain rfl : k = q := by omega
      obtain ⟨k1, k2, k3⟩ := hLk.out.fin (by decide)
      obtain ⟨d0, d1⟩ := hLk.out.cells
      have C0 := k1.cell 0
      have C1 := k1.cell 1
      simp only [List.getElem?_toArray, List.getElem?_cons_zero, List.getElem?_cons_succ] at C0 C1
      have f0 := hLk.out.kr.frozen 0
      have f1 := hLk.out.kr.frozen 1
      have l0 := hLk.out.kr.lt
      have z0 := hLk.out.kr.cell 0
      have z1 := hLk.out.kr.cell 1
      simp only [List.getElem?_toArray, List.getElem?_cons_zero, List.getElem?_cons_succ] at z0 z1
      have K2 := Lib.hid k2
      have K3 := Lib.hid k3
      clear k1 k2 k3
      go_wp2
      refine bodyPost_ret (v := .agg #[.slice oT k cT, .slice oS m m]) (by simp [results, Try.results25, go_sem, C0, C1]) rfl ⟨_, Sk, rfl, K2.out, hl.out, by rw [HQ.out] at hP ⊢; exact hP.out, K3.out⟩
end Go.Proofs.Ytfnlegnieilcbaa
