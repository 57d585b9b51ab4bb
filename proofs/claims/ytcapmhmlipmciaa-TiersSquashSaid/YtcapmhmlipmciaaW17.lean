/- tiers.Join, Least. -/
import Derived.Test.YtcapmhmlipmciaaW16
namespace Go.Proofs.Kit
open Go.RowKit
def leastL (L : List Tr) : List Tr := if goodT L ∧ those L 1 ≠ [] then [joinT true L] else []
end Go.Proofs.Kit
namespace Go.Proofs.Ytcapmhmlipmciaa
open Go.RowKit Go.Proofs.Kit Go.Shelf
theorem segT_two {w : World} {b : Nat} {x y : Ti} {t u : Tr} (hb : Blk w b #[.slice x.ao x.an x.ac, .slice x.bo x.bn x.bc, .slice y.ao y.an y.ac, .slice y.bo y.bn y.bc] 38) (h : TR w x t) (k : TR w y u) : SegT w (.slice (some ⟨b, 0, none⟩) 2 2) [t, u] := by
  refine ⟨[x, y], SegE.of_blk (E := tiE) (l := [x, y]) (cap := 2) hb (by simp) (by decide) rfl, rfl, fun i a b => ?_⟩
  have : i = 0 ∨ i = 1 := by simp at a; omega
  rcases this with rfl | rfl
  · exact h
  · exact k
set_option maxRecDepth 100000 in
set_option maxHeartbeats 4000000 in
theorem join_any (o : Bool) (x y : Ti) (t u : Tr) (w : World) (hx : TR w x t) (hy : TR w y u) (hW : Wl [t, u]) (hS : SmT 100000 [t, u]) :
    Calls Try.prog 28 #[.agg #[.slice x.ao x.an x.ac, .slice x.bo x.bn x.bc], .agg #[.slice y.ao y.an y.ac, .slice y.bo y.bn y.bc], .bool o] w fun e w' => ∃ z : Ti, e = .returned (.tuple #[.agg #[.slice z.ao z.an z.ac, .slice z.bo z.bn z.bc], .int .i64 (ckT [t, u])]) ∧
      OwnQ 36 w.heap.size w' z (if goodT [t, u] then joinT o [t, u] else ([], [])) ∧ Below w.heap.size w w' := by
  obtain ⟨ao, an, ac, bo, bn, bc⟩ := x
  obtain ⟨ao', an', ac', bo', bn', bc'⟩ := y
  simp only
  have HX := Lib.hid hx
  have HY := Lib.hid hy
  have HW := Lib.hid hW
  have HS := Lib.hid hS
  obtain ⟨ck, hck⟩ : ∃ ck, ck = ckT [t, u] := ⟨_, rfl⟩
  obtain ⟨rs, hrs⟩ : ∃ rs, rs = if goodT [t, u] then joinT o [t, u] else ([], []) := ⟨_, rfl⟩
  rw [← hck, ← hrs]
  have HCK := Lib.hid hck
  have HRS := Lib.hid hrs
  clear hx hy hW hS hck hrs
  go_enter Try.func28, Try.ntmps28
  go_wp2_with fail
  obtain ⟨W1, hW1⟩ : ∃ W1, W1 = (((w.alloc (.cells #[.slice ao an ac, .slice bo bn bc] 38)).alloc (.cells #[.slice ao' an' ac', .slice bo' bn' bc'] 38)).alloc (.cells #[.slice none 0 0, .slice none 0 0] 38)).alloc (.cells #[.slice ao an ac, .slice bo bn bc, .slice ao' an' ac', .slice bo' bn' bc'] 38) := ⟨_, rfl⟩
  have G1 : Gr w W1 := by rw [hW1]; exact (((Gr.alloc _ _).trans (Gr.alloc _ _)).trans (Gr.alloc _ _)).trans (Gr.alloc _ _)
  have kr : Blk W1 (w.heap.size + 1 + 1) #[.slice none 0 0, .slice none 0 0] 38 := by
    rw [hW1]
    have := (Blk.new ((w.alloc (.cells #[.slice ao an ac, .slice bo bn bc] 38)).alloc (.cells #[.slice ao' an' ac', .slice bo' bn' bc'] 38)) #[.slice none 0 0, .slice none 0 0] 38).alloc (.cells #[.slice ao an ac, .slice bo bn bc, .slice ao' an' ac', .slice bo' bn' bc'] 38)
    simpa using this
  have ks : Blk W1 (w.heap.size + 1 + 1 + 1) #[.slice ao an ac, .slice bo bn bc, .slice ao' an' ac', .slice bo' bn' bc'] 38 := by
    rw [hW1]
    have := Blk.new (((w.alloc (.cells #[.slice ao an ac, .slice bo bn bc] 38)).alloc (.cells #[.slice ao' an' ac', .slice bo' bn' bc'] 38)).alloc (.cells #[.slice none 0 0, .slice none 0 0] 38)) #[.slice ao an ac, .slice bo bn bc, .slice ao' an' ac', .slice bo' bn' bc'] 38
    simpa using this
  rw [← hW1]
  clear hW1
  have hseg := segT_two (x := ⟨ao, an, ac, bo, bn, bc⟩) (y := ⟨ao', an', ac', bo', bn', bc'⟩) ks (HX.out.later G1.below) (HY.out.later G1.below)
  have hC := check11_any _ _ W1 hseg (HS.out.mono (by decide))
  rw [← HCK.out] at hC
  have HC := Lib.hid hC
  have HSEG := Lib.hid hseg
  have HKR := Lib.hid kr
  have LOW := Lib.hid G1.below
  clear G1 kr ks hseg hC
  refine HC.out.mono ?_
  rintro e w2 ⟨rfl, b2⟩
  have kr2 := HKR.out.later b2
  have KR2 := Lib.hid kr2
  have LOW2 := Lib.hid (below_later LOW.out b2)
  have HSEG2 := Lib.hid (HSEG.out.later b2)
  have c0 := kr2.cell 0
  have c1 := kr2.cell 1
  have f0 := kr2.frozen 0
  have f1 := kr2.frozen 1
  have l2 := kr2.lt
  simp only [List.getElem?_toArray, List.getElem?_cons_zero, List.getElem?_cons_succ] at c0 c1
  clear b2 kr2
  by_cases hg : goodT [t, u]
  · have e1 : ck = 0 := HCK.out.trans (ckT_yes hg)
    have e2 : rs = joinT o [t, u] := HRS.out.trans (if_pos hg)
    have HG := Lib.hid hg
    subst e1 e2
    clear hg c0 c1 f0 f1 l2
    go_wp2_with fail
    refine (joined_any o _ [t, u] _ HSEG2.out HW.out 100000 HS.out (by simp) (by decide) (by simp)).mono ?_
    rintro e w3 ⟨⟨zo, zn, zc, yo, yn, yc⟩, rfl, q3, b3⟩
    have kr3 := KR2.out.later b3
    have KR3 := Lib.hid kr3
    have LOW3 := Lib.hid (below_later LOW2.out b3)
    have Q3 := Lib.hid (q3.mono (B' := w.heap.size) LOW2.out.size)
    have c0 := kr3.cell 0
    have c1 := kr3.cell 1
    have f0 := kr3.frozen 0
    have f1 := kr3.frozen 1
    have l2 := kr3.lt
    simp only [List.getElem?_toArray, List.getElem?_cons_zero, List.getElem?_cons_succ] at c0 c1
    clear b3 kr3 q3
    go_wp2
    have kf := KR3.out.setT (u := .slice zo zn zc) (v := .slice yo yn yc)
    have C0 := kf.cell 0
    have C1 := kf.cell 1
    simp only [List.getElem?_toArray, List.getElem?_cons_zero, List.getElem?_cons_succ] at C0 C1
    refine bodyPost_ret (v := .tuple #[.agg #[.slice zo zn zc, .slice yo yn yc], .int .i64 0]) (by simp [results, Try.results28, go_sem, C0, C1]) rfl ⟨⟨zo, zn, zc, yo, yn, yc⟩, rfl, ⟨?_, ?_⟩, (LOW3.out.setCell (by simp; omega) _).setCell (by simp; omega) _⟩
    · exact Q3.out.1.otherB2 KR3.out (by decide) 0 1 (.slice zo zn zc) (.slice yo yn yc)
    · exact Q3.out.2.otherB2 KR3.out (by decide) 0 1 (.slice zo zn zc) (.slice yo yn yc)
  · have e1 : ck = 210 := HCK.out.trans (ckT_no hg)
    have e2 : rs = ([], []) := HRS.out.trans (if_neg hg)
    subst e1 e2
    clear hg
    have hbd : ∀ w, (Instr.build 38 #[]).run Try.prog w = .ok (.agg #[.slice none 0 0, .slice none 0 0]) w := fun w => by kernel_rfl
    go_wp2
    have kf := KR2.out.setT (u := .slice none 0 0) (v := .slice none 0 0)
    have C0 := kf.cell 0
    have C1 := kf.cell 1
    simp only [List.getElem?_toArray, List.getElem?_cons_zero, List.getElem?_cons_succ] at C0 C1
    refine bodyPost_ret (v := .tuple #[.agg #[.slice none 0 0, .slice none 0 0], .int .i64 210]) (by simp [results, Try.results28, go_sem, C0, C1]) rfl ⟨⟨none, 0, 0, none, 0, 0⟩, rfl, ⟨OwnP.nil _ _ _, OwnP.nil _ _ _⟩, (LOW2.out.setCell (by simp; omega) _).setCell (by simp; omega) _⟩
set_option maxRecDepth 100000 in
set_option maxHeartbeats 4000000 in
theorem least11_any (v : Value) (L : List Tr) (w : World) (h : SegT w v L) (hW : Wl L) (hS : SmT 10000 L) :
    Calls Try.prog 16 #[v] w fun e w' => ∃ v', e = .returned (.tuple #[v', .int .i64 (ckT L)]) ∧ OwnT 36 38 w.heap.size w' v' (leastL L) ∧ Below w.heap.size w w' := by
  obtain ⟨o, c, rfl, hc, hm⟩ := h.shape
  obtain ⟨n, hn⟩ : ∃ n, n = L.length := ⟨_, rfl⟩
  rw [← hn] at h hc ⊢
  have hC := check11_any _ L w h (hS.mono (by decide))
  obtain ⟨ck, hck⟩ : ∃ ck, ck = ckT L := ⟨_, rfl⟩
  obtain ⟨rs, hrs⟩ : ∃ rs, rs = leastL L := ⟨_, rfl⟩
  rw [← hck] at hC ⊢
  rw [← hrs]
  have HN := Lib.hid hn
  have HA := Lib.hid h
  have HW := Lib.hid hW
  have HS := Lib.hid hS
  have HC := Lib.hid hC
  have HCK := Lib.hid hck
  have HRS := Lib.hid hrs
  clear h hn hW hS hC hck hrs
  by_cases hg : goodT L
  · have e1 : ck = 0 := HCK.out.trans (ckT_yes hg)
    subst e1
    have HG := Lib.hid hg
    clear hg
    go_enter Try.func16, Try.ntmps16
    go_wp2_with fail
    refine HC.out.mono ?_
    rintro e w1 ⟨rfl, b1⟩
    have HA1 := Lib.hid (HA.out.later b1)
    have LOW1 := Lib.hid b1
    clear b1
    go_wp2_with fail
    refine (joined_any true _ L _ HA1.out HW.out 10000 HS.out (by have := HG.out.2; omega) (by decide) (by have := HG.out.2; omega)).mono ?_
    rintro e w2 ⟨⟨ao, an, ac, bo, bn, bc⟩, rfl, q2, b2⟩
    have Q2 := Lib.hid (q2.mono (B' := w.heap.size) LOW1.out.size)
    have LOW2 := Lib.hid (below_later LOW1.out b2)
    have han : (those L 1).length = an := q2.1.seg.len_n.1
    have HAN := Lib.hid han
    clear q2 b2 han
    obtain ⟨W3, hW3⟩ : ∃ W3, W3 = w2.alloc (.cells #[.slice ao an ac, .slice bo bn bc] 38) := ⟨_, rfl⟩
    have G3 : Gr w2 W3 := by rw [hW3]; exact Gr.alloc _ _
    have k3 : Blk W3 w2.heap.size #[.slice ao an ac, .slice bo bn bc] 38 := by rw [hW3]; exact Blk.new _ _ _
    have LOW3 := Lib.hid (below_later LOW2.out G3.below)
    have Q3 := Lib.hid (Q2.out.later G3.below)
    have e0 := k3.cell 0
    have e1 := k3.cell 1
    have l3 := k3.lt
    simp only [List.getElem?_toArray, List.getElem?_cons_zero, List.getElem?_cons_succ] at e0 e1
    clear G3 k3
    by_cases h0 : an = 0
    · have e2 : rs = [] := by
        rw [HRS.out, leastL, if_neg]
        rintro ⟨_, h2⟩
        exact h2 (List.length_eq_zero_iff.1 (by rw [HAN.out, h0]))
      subst e2 h0
      go_upto_region 4 with (fail)
      rw [← hW3]
      clear hW3
      go_wp2
      go_ret2
      exact ⟨_, rfl, OwnT.nil _ _ _ _, LOW3.out⟩
    · have e2 : rs = [joinT true L] := by
        rw [HRS.out, leastL, if_pos]
        exact ⟨HG.out, fun e => h0 (by rw [← HAN.out, e]; rfl)⟩
      have t0 : ((an : Int) == 0) = false := by simp; omega
      subst e2
      clear h0
      go_upto_region 4 with (fail)
      rw [← hW3]
      clear hW3
      go_wp2
      go_ret2
      exact ⟨_, rfl, OwnT.one (x := ⟨ao, an, ac, bo, bn, bc⟩) LOW3.out.size Q3.out, LOW3.out.alloc LOW3.out.size _⟩
  · have e1 : ck = 210 := HCK.out.trans (ckT_no hg)
    have e2 : rs = [] := by rw [HRS.out, leastL, if_neg]; exact fun c => hg c.1
    subst e1 e2
    clear hg
    go_enter Try.func16, Try.ntmps16
    go_wp2_with fail
    refine HC.out.mono ?_
    rintro e w1 ⟨rfl, b1⟩
    go_wp2
    go_ret2
    exact ⟨_, rfl, OwnT.nil _ _ _ _, b1⟩
end Go.Proofs.Ytcapmhmlipmciaa

