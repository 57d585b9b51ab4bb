/- tiers.asOne, joined: some tiers as one. -/
import Derived.Test.YtlhigfphfbmbjaaW11
import Derived.Test.YtlhigfphfbmbjaaW4
namespace Go.Proofs.Kit
open Go.RowKit
theorem Blk.setT {w : World} {b : Nat} {x y u v : Value} {t : TypeId} (h : Blk w b #[x, y] t) : Blk ((w.setCell ⟨b, 0, none⟩ u).setCell ⟨b, 1, none⟩ v) b #[u, v] t := by
  have := (h.set 0 u).set 1 v
  simpa using this
theorem OwnP.otherB {t : TypeId} {B : Nat} {w : World} {v : Value} {l : List Pr} (h : OwnP t B w v l) {g : Nat} {vs : Array Value} {t' : TypeId} (hg : Blk w g vs t') (ht : t ≠ t') (j : Nat) (u : Value) : OwnP t B (w.setCell ⟨g, j, none⟩ u) v l :=
  h.same fun g' hg' => Below.heap_setCell _ _ _ _ (fun e => h.ne_blk hg ht (by rw [hg', e]))
theorem OwnP.otherB2 {t : TypeId} {B : Nat} {w : World} {v : Value} {l : List Pr} (h : OwnP t B w v l) {g : Nat} {vs : Array Value} {t' : TypeId} (hg : Blk w g vs t') (ht : t ≠ t') (j k : Nat) (u u' : Value) : OwnP t B ((w.setCell ⟨g, j, none⟩ u).setCell ⟨g, k, none⟩ u') v l :=
  (h.otherB hg ht j u).otherB (hg.set j u) ht k u'
end Go.Proofs.Kit
namespace Go.Proofs.Ytlhigfphfbmbjaa
open Go.RowKit Go.Proofs.Kit Go.Shelf Go.Maps
theorem those_word {L : List Tr} (hW : Wl L) {k : Int} (hk : k ≠ 0) {r : List Pr} {q : Int → Bool} (hq : ∀ x, q x = true ↔ x = k) (h : Run r ∧ ∀ p, p ∈ r ↔ Wp p ∧ q (says L p) = true) : r = those L k := by
  refine those_of hk h.1 fun p => ?_
  rw [h.2 p, hq]
  exact ⟨fun a => a.2, fun a => ⟨those_w hW k p ((those_mem hk p).2 a), a⟩⟩
set_option maxRecDepth 100000 in
set_option maxHeartbeats 2000000 in
theorem asOne_any (o : Bool) (v : Value) (L : List Tr) (w : World) (h : SegT w v L) (hW : Wl L) (hS : SmT 1000000 L) (hn : L.length ≤ 100) :
    Calls Try.prog 63 #[.bool o, v] w fun e w' => ∃ x : Ti, e = .returned (.agg #[.slice x.ao x.an x.ac, .slice x.bo x.bn x.bc]) ∧ OwnQ 53 w.heap.size w' x (joinT o L) ∧ Below w.heap.size w w' := by
  have hmf : ∀ (fn : Fn) (first cap : Array Value) (w : World), (Instr.makeFunc fn first cap).run Try.prog w = .ok (.func fn first cap) w := fun _ _ _ _ => rfl
  obtain ⟨oo, c, rfl, _, _⟩ := h.shape
  obtain ⟨n, hnl⟩ : ∃ n, n = L.length := ⟨_, rfl⟩
  rw [← hnl] at h ⊢
  have HNL := Lib.hid hnl
  have HSEG := Lib.hid h
  have HW := Lib.hid hW
  have HSM := Lib.hid hS
  clear h hW hS hnl
  go_enter Try.func63, Try.ntmps63
  go_wp2_with fail
  obtain ⟨W1, hW1⟩ : ∃ W1, W1 = (w.alloc (.cells #[.bool o] 4)).alloc (.cells #[.slice none 0 0, .slice none 0 0] 24) := ⟨_, rfl⟩
  have G1 : Gr w W1 := by rw [hW1]; exact (Gr.alloc _ _).trans (Gr.alloc _ _)
  have kb : Blk W1 w.heap.size #[.bool o] 4 := by rw [hW1]; exact (Blk.new _ _ _).alloc _
  have kr : Blk W1 (w.heap.size + 1) #[.slice none 0 0, .slice none 0 0] 24 := by rw [hW1]; have := Blk.new (w.alloc (.cells #[.bool o] 4)) #[.slice none 0 0, .slice none 0 0] 24; simpa using this
  rw [← hW1]
  clear hW1
  refine (said_any _ L _ (HSEG.out.gr G1) HW.out HSM.out (by have := HNL.out; omega)).mono ?_
  rintro e w2 ⟨bm, rfl, hbm, m2, b2⟩
  have KB := Lib.hid (kb.later b2)
  have KR := Lib.hid (kr.later b2)
  have LOW := Lib.hid (below_later G1.below b2)
  have M2 := Lib.hid m2
  clear kb kr m2 b2 G1
  go_wp2_with fail
  refine (inOrderA_any w.heap.size o bm _ _ w2 M2.out (by decide) KB.out).mono ?_
  rintro e w3 ⟨v1, r1, rfl, o1, h1, b3⟩
  have M3 := Lib.hid (M2.out.later b3)
  have KB3 := Lib.hid (KB.out.later b3)
  have KR3 := Lib.hid (KR.out.later b3)
  have LOW3 := Lib.hid (below_later LOW.out b3)
  have O1 := Lib.hid o1
  have H1 := Lib.hid (those_word HW.out (k := 1) (q := fun x => x == 1) (by decide) (fun x => by simp) h1)
  clear o1 h1 b3
  go_wp2_with fail
  refine (inOrderB_any w.heap.size o bm _ _ w3 M3.out (by decide) KB3.out).mono ?_
  rintro e w4 ⟨v2, r2, rfl, o2, h2, b4⟩
  have hlow2 := LOW.out.size
  have hlow3 := LOW3.out.size
  have kr4 := KR3.out.later b4
  have O14 := Lib.hid ((O1.out.later b4).mono (B' := w.heap.size) hlow2)
  have O24 := Lib.hid (o2.mono (B' := w.heap.size) hlow3)
  have LOW4 := Lib.hid (below_later LOW3.out b4)
  have H2 : Hid (r2 = (joinT o L).2) := Lib.hid (by
    unfold joinT
    cases o
    · exact those_word HW.out (k := 2) (q := fun x => x == 2 && !false) (by decide) (fun x => by simp) h2
    · simp only [if_true]
      refine List.eq_nil_iff_forall_not_mem.2 fun p hp => ?_
      have := ((h2.2 p).1 hp).2
      simp at this)
  obtain ⟨ao, an, ac, rfl⟩ := O14.out.any
  obtain ⟨bo, bn, bc, rfl⟩ := O24.out.any
  have KR4 := Lib.hid kr4
  have c0 := kr4.cell 0
  have c1 := kr4.cell 1
  have f0 := kr4.frozen 0
  have f1 := kr4.frozen 1
  have l4 := kr4.lt
  simp only [List.getElem?_toArray, List.getElem?_cons_zero, List.getElem?_cons_succ] at c0 c1
  clear o2 h2 b4 kr4 O1 hlow2 hlow3
  go_wp2
  have kf := KR4.out.setT (u := .slice ao an ac) (v := .slice bo bn bc)
  have C0 := kf.cell 0
  have C1 := kf.cell 1
  simp only [List.getElem?_toArray, List.getElem?_cons_zero, List.getElem?_cons_succ] at C0 C1
  refine bodyPost_ret (v := .agg #[.slice ao an ac, .slice bo bn bc]) (by simp [results, Try.results63, go_sem, C0, C1]) rfl ⟨⟨ao, an, ac, bo, bn, bc⟩, rfl, ⟨?_, ?_⟩, (LOW4.out.setCell (by simp) _).setCell (by simp) _⟩
  · have := O14.out.otherB2 KR4.out (by decide) 0 1 (.slice ao an ac) (.slice bo bn bc)
    rw [H1.out] at this
    exact this
  · have := O24.out.otherB2 KR4.out (by decide) 0 1 (.slice ao an ac) (.slice bo bn bc)
    rw [H2.out] at this
    exact this
end Go.Proofs.Ytlhigfphfbmbjaa

