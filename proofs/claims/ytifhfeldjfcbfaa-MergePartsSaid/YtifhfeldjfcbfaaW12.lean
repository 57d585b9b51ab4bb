/- tiers.asOne, joined: some tiers as one. -/
import Derived.Test.YtifhfeldjfcbfaaW11
import Derived.Test.YtifhfeldjfcbfaaW4
namespace Go.Proofs.Kit
open Go.RowKit
theorem Blk.setT {w : World} {b : Nat} {x y u v : Value} {t : TypeId} (h : Blk w b #[x, y] t) : Blk ((w.setCell ⟨b, 0, none⟩ u).setCell ⟨b, 1, none⟩ v) b #[u, v] t := by
  have := (h.set 0 u).set 1 v
  simpa using this
theorem OwnP.otherB {t : TypeId} {B : Nat} {w : World} {v : Value} {l : List Pr} (h : OwnP t B w v l) {g : Nat} {vs : Array Value} {t' : TypeId} (hg : Blk w g vs t') (ht : t ≠ t') (j : Nat) (u : Value) : OwnP t B (w.setCell ⟨g, j, none⟩ u) v l :=
  h.same fun g' hg' => Below.heap_setCell _ _ _ _ (fun e => h.ne_blk hg ht (by rw [hg', e]))
theorem OwnP.otherB2 {t : TypeId} {B : Nat} {w : World} {v : Value} {l : List Pr} (h : OwnP t B w v l) {g : Nat} {vs : Array Value} {t' : TypeId} (hg : Blk w g vs t') (ht : t ≠ t') (j k : Nat) (u u' : Value) : OwnP t B ((w.setCell ⟨g, j, none⟩ u).setCell ⟨g, k, none⟩ u') v l :=
  (h.otherB hg ht j u).otherB (hg.set j u) ht k u'
end Go.Proofs.Kit
namespace Go.Proofs.Ytifhfeldjfcbfaa
open Go.RowKit Go.Proofs.Kit Go.Shelf Go.Maps
theorem those_word {L : List Tr} (hW : Wl L) {k : Int} (hk : k ≠ 0) {r : List Pr} {q : Int → Bool} (hq : ∀ x, q x = true ↔ x = k) (h : Run r ∧ ∀ p, p ∈ r ↔ Wp p ∧ q (says L p) = true) : r = those L k := by
  refine those_of hk h.1 fun p => ?_
  rw [h.2 p, hq]
  exact ⟨fun a => a.2, fun a => ⟨those_w hW k p ((those_mem hk p).2 a), a⟩⟩
set_option maxRecDepth 100000 in
set_option maxHeartbeats 2000000 in
theorem asOne_any (o : Bool) (v : Value) (L : List Tr) (w : World) (h : SegT w v L) (hW : Wl L) (hS : SmT 1000000 L) (hn : L.length ≤ 100) :
    Calls Try.prog 51 #[.bool o, v] w fun e w' => ∃ x : Ti, e = .returned (.agg #[.slice x.ao x.an x.ac, .slice x.bo x.bn x.bc]) ∧ OwnQ 55 w.heap.size w' x (joinT o L) ∧ Below w.heap.size w w' := by
  have hmf : ∀ (fn : Fn) (first cap : Array Value) (w : World), (Instr.makeFunc fn first cap).run Try.prog w = .ok (.func fn first cap) w := fun _ _ _ _ => rfl
  obtain ⟨oo, c, rfl, _, _⟩ := h.shape
  obtain ⟨n, hnl⟩ : ∃ n, n = L.length := ⟨_, rfl⟩
  rw [← hnl] at h ⊢
  have HNL := Lib.hid hnl
  have HSEG := Lib.hid h
  have HW := Lib.hid hW
  have HSM := Lib.hid hS
  clear h hW hS hnl
  go_enter Try.func51, Try.ntmps51
  go_wp2_with fail
  obtain ⟨W1, hW1⟩ : ∃ W1, W1 = (w.alloc (.cells #[.bool o] 4)).alloc (.cells #[.slice none 0 0, .slice none 0 0] 24) := ⟨_, rfl⟩
  have G1 : Gr w W1 := by rw [hW1]; exact (Gr.alloc _ _).trans (Gr.alloc _ _)
  have kb : Blk W1 w.heap.size #[.bool o] 4 := by rw [hW1]; exact (Blk.new _ _ _).alloc _
  have kr : Blk W1 (w.heap.size + 1) #[.slice none 0 0, .slice none 0 0] 24 := by rw [hW1]; have := Blk.new (w.alloc (.cells #[.bool o] 4)) #[.slice none 0 0, .slice none 0 0] 24; simpa using this
  rw [← hW1]
  clear hW1
  refine (said_any _ L _ (HSEG.out.gr G1) HW.out HSM.out (by have := HNL.out; omega)).mono ?_
  rintro e w2 ⟨bm, rfl, hbm, m2, b2⟩
  have KB := Lib.hid (kb.later b2)
  have KR := Lib.hid (kr.later b2)
  have LOW := Lib.hid (below_later G1.below b2)
  have M2 := Lib.hid m2
  clear kb kr m2 b2 G1
  go_wp2_with fail
  refine (inOrderA_any w.heap.size o bm _ _ w2 M2.out (by decide) KB.out).mono ?_
  rintro e w3 ⟨v1, r1, rfl, o1, h1, b3⟩
  have M3 := Lib.hid (M2.out.later b3)
  have KB3 := Lib.hid (KB.out.later b3)
  have KR3 := Lib.hid (KR.out.later b3)
  have LOW3 := Lib.hid (below_later LOW.out b3)
  have O1 := Lib.hid o1
  have H1 := Lib.hid (those_word HW.out (k := 1) (q := fun x => x == 1) (by decide) (fun x => by simp) h1)
  clear o1 h1 b3
  go_wp2_with fail
  refine (inOrderB_any w.heap.size o bm _ _ w3 M3.out (by decide) KB3.out).mono ?_
  rintro e w4 ⟨v2, r2, rfl, o2, h2, b4⟩
  have hlow2 := LOW.out.size
  have hlow3 := LOW3.out.size
  have kr4 := KR3.out.later b4
  have O14 := Lib.hid ((O1.out.later b4).mono (B' := w.heap.size) hlow2)
  have O24 := Lib.hid (o2.mono (B' := w.heap.size) hlow3)
  have LOW4 := Lib.hid (below_later LOW3.out b4)
  have H2 : Hid (r2 = (joinT o L).2) := Lib.hid (by
    unfold joinT
    cases o
    · exact those_word HW.out (k := 2) (q := fun x => x == 2 && !false) (by decide) (fun x => by simp) h2
    · simp only [if_true]
      refine List.eq_nil_iff_forall_not_mem.2 fun p hp => ?_
      have := ((h2.2 p).1 hp).2
      simp at this)
  obtain ⟨ao, an, ac, rfl⟩ := O14.out.any
  obtain ⟨bo, bn, bc, rfl⟩ := O24.out.any
  have KR4 := Lib.hid kr4
  have c0 := kr4.cell 0
  have c1 := kr4.cell 1
  have f0 := kr4.frozen 0
  have f1 := kr4.frozen 1
  have l4 := kr4.lt
  simp only [List.getElem?_toArray, List.getElem?_cons_zero, List.getElem?_cons_succ] at c0 c1
  clear o2 h2 b4 kr4 O1 hlow2 hlow3
  go_wp2
  have kf := KR4.out.setT (u := .slice ao an ac) (v := .slice bo bn bc)
  have C0 := kf.cell 0
  have C1 := kf.cell 1
  simp only [List.getElem?_toArray, List.getElem?_cons_zero, List.getElem?_cons_succ] at C0 C1
  refine bodyPost_ret (v := .agg #[.slice ao an ac, .slice bo bn bc]) (by simp [results, Try.results51, go_sem, C0, C1]) rfl ⟨⟨ao, an, ac, bo, bn, bc⟩, rfl, ⟨?_, ?_⟩, (LOW4.out.setCell (by simp) _).setCell (by simp) _⟩
  · have := O14.out.otherB2 KR4.out (by decide) 0 1 (.slice ao an ac) (.slice bo bn bc)
    rw [H1.out] at this
    exact this
  · have := O24.out.otherB2 KR4.out (by decide) 0 1 (.slice ao an ac) (.slice bo bn bc)
    rw [H2.out] at this
    exact this
set_option maxRecDepth 100000 in
set_option maxHeartbeats 2000000 in
theorem joined_any (o : Bool) (v : Value) (L : List Tr) (w : World) (h : SegT w v L) (hW : Wl L) (m : Nat) (hS : SmT m L) (hb : L.length * (2 * m) ≤ 1000000) (hm : m ≤ 1000000) (hn : L.length ≤ 100) :
    Calls Try.prog 47 #[.bool o, v] w fun e w' => ∃ x : Ti, e = .returned (.tuple #[.agg #[.slice x.ao x.an x.ac, .slice x.bo x.bn x.bc], .int .i64 0]) ∧ OwnQ 55 w.heap.size w' x (joinT o L) ∧ Below w.heap.size w w' := by
  obtain ⟨oo, c, rfl, _, _⟩ := h.shape
  obtain ⟨n, hnl⟩ : ∃ n, n = L.length := ⟨_, rfl⟩
  rw [← hnl] at h ⊢
  have hlen := joinT_len hS o
  have HNL := Lib.hid hnl
  have HSEG := Lib.hid h
  have HW := Lib.hid hW
  have HSM := Lib.hid (hS.mono hm)
  have HLEN := Lib.hid (show (joinT o L).1.length ≤ 1000000 ∧ (joinT o L).2.length ≤ 1000000 from ⟨by omega, by omega⟩)
  clear h hW hS hnl hlen hb hm
  go_enter Try.func47, Try.ntmps47
  go_wp2_with fail
  obtain ⟨W1, hW1⟩ : ∃ W1, W1 = w.alloc (.cells #[.slice none 0 0, .slice none 0 0] 24) := ⟨_, rfl⟩
  have G1 : Gr w W1 := by rw [hW1]; exact Gr.alloc _ _
  have kr : Blk W1 w.heap.size #[.slice none 0 0, .slice none 0 0] 24 := by rw [hW1]; exact Blk.new _ _ _
  rw [← hW1]
  clear hW1
  refine (asOne_any o _ L _ (HSEG.out.gr G1) HW.out HSM.out (by have := HNL.out; omega)).mono ?_
  rintro e w2 ⟨⟨ao, an, ac, bo, bn, bc⟩, rfl, q2, b2⟩
  have hn1 := q2.1.seg.len_n
  have hn2 := q2.2.seg.len_n
  simp only at hn1 hn2
  obtain ⟨W3, hW3⟩ : ∃ W3, W3 = w2.alloc (.cells #[.slice ao an ac, .slice bo bn bc] 24) := ⟨_, rfl⟩
  have G3 : Gr w2 W3 := by rw [hW3]; exact Gr.alloc _ _
  have kt : Blk W3 w2.heap.size #[.slice ao an ac, .slice bo bn bc] 24 := by rw [hW3]; exact Blk.new _ _ _
  have kr3 := (kr.later b2).later G3.below
  have hlow := below_later (below_later G1.below b2) G3.below
  have HQ := Lib.hid ((q2.later G3.below).mono (B' := w.heap.size) (by have := G1.below.size; omega))
  have LOW := Lib.hid hlow
  have KR := Lib.hid kr3
  have KT3 := Lib.hid kt
  have c0 := kr3.cell 0
  have c1 := kr3.cell 1
  have f0 := kr3.frozen 0
  have f1 := kr3.frozen 1
  have l3 := kr3.lt
  have d0 := kt.cell 0
  have d1 := kt.cell 1
  have l4 := kt.lt
  simp only [List.getElem?_toArray, List.getElem?_cons_zero, List.getElem?_cons_succ] at c0 c1 d0 d1
  have hne : w2.heap.size ≠ w.heap.size := by have := (kr.later b2).lt; omega
  have an1 : an ≤ 1000000 := by have := HLEN.out.1; omega
  have bn1 : bn ≤ 1000000 := by have := HLEN.out.2; omega
  have hmax : max (an : Int) (bn : Int) ≤ 1000000 := by omega
  have hgt : decide ((1048576 : Int) < max (an : Int) (bn : Int)) = false := decide_eq_false (by omega)
  clear hmax an1 bn1 G1 G3 kt kr kr3 b2 q2 hlow hn1 hn2
  go_upto_region 2 with (fail)
  rw [← hW3]
  clear hW3
  go_wp2
  have kf := KR.out.setT (u := .slice ao an ac) (v := .slice bo bn bc)
  have C0 := kf.cell 0
  have C1 := kf.cell 1
  simp only [List.getElem?_toArray, List.getElem?_cons_zero, List.getElem?_cons_succ] at C0 C1
  refine bodyPost_ret (v := .tuple #[.agg #[.slice ao an ac, .slice bo bn bc], .int .i64 0]) (by simp [results, Try.results47, go_sem, C0, C1]) rfl ⟨⟨ao, an, ac, bo, bn, bc⟩, rfl, ⟨?_, ?_⟩, (LOW.out.setCell (by simp) _).setCell (by simp) _⟩
  · exact HQ.out.1.otherB2 KR.out (by decide) 0 1 (.slice ao an ac) (.slice bo bn bc)
  · exact HQ.out.2.otherB2 KR.out (by decide) 0 1 (.slice ao an ac) (.slice bo bn bc)
end Go.Proofs.Ytifhfeldjfcbfaa

