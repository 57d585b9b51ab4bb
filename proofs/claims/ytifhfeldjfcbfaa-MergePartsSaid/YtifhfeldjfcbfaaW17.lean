/- tiers.Join, Least. -/
import Derived.Test.YtifhfeldjfcbfaaW16
namespace Go.Proofs.Kit
open Go.RowKit
def leastL (L : List Tr) : List Tr := if goodT L ∧ those L 1 ≠ [] then [joinT true L] else []
end Go.Proofs.Kit
namespace Go.Proofs.Ytifhfeldjfcbfaa
open Go.RowKit Go.Proofs.Kit Go.Shelf
theorem segT_two {w : World} {b : Nat} {x y : Ti} {t u : Tr} (hb : Blk w b #[.slice x.ao x.an x.ac, .slice x.bo x.bn x.bc, .slice y.ao y.an y.ac, .slice y.bo y.bn y.bc] 24) (h : TR w x t) (k : TR w y u) : SegT w (.slice (some ⟨b, 0, none⟩) 2 2) [t, u] := by
  refine ⟨[x, y], SegE.of_blk (E := tiE) (l := [x, y]) (cap := 2) hb (by simp) (by decide) rfl, rfl, fun i a b => ?_⟩
  have : i = 0 ∨ i = 1 := by simp at a; omega
  rcases this with rfl | rfl
  · exact h
  · exact k
set_option maxRecDepth 100000 in
set_option maxHeartbeats 4000000 in
theorem join_any (o : Bool) (x y : Ti) (t u : Tr) (w : World) (hx : TR w x t) (hy : TR w y u) (hW : Wl [t, u]) (hS : SmT 100000 [t, u]) :
    Calls Try.prog 25 #[.agg #[.slice x.ao x.an x.ac, .slice x.bo x.bn x.bc], .agg #[.slice y.ao y.an y.ac, .slice y.bo y.bn y.bc], .bool o] w fun e w' => ∃ z : Ti, e = .returned (.tuple #[.agg #[.slice z.ao z.an z.ac, .slice z.bo z.bn z.bc], .int .i64 (ckT [t, u])]) ∧
      OwnQ 55 w.heap.size w' z (if goodT [t, u] then joinT o [t, u] else ([], [])) ∧ Below w.heap.size w w' := by
  obtain ⟨ao, an, ac, bo, bn, bc⟩ := x
  obtain ⟨ao', an', ac', bo', bn', bc'⟩ := y
  simp only
  have HX := Lib.hid hx
  have HY := Lib.hid hy
  have HW := Lib.hid hW
  have HS := Lib.hid hS
  obtain ⟨ck, hck⟩ : ∃ ck, ck = ckT [t, u] := ⟨_, rfl⟩
  obtain ⟨rs, hrs⟩ : ∃ rs, rs = if goodT [t, u] then joinT o [t, u] else ([], []) := ⟨_, rfl⟩
  rw [← hck, ← hrs]
  have HCK := Lib.hid hck
  have HRS := Lib.hid hrs
  clear hx hy hW hS hck hrs
  go_enter Try.func25, Try.ntmps25
  go_wp2_with fail
  obtain ⟨W1, hW1⟩ : ∃ W1, W1 = (((w.alloc (.cells #[.slice ao an ac, .slice bo bn bc] 24)).alloc (.cells #[.slice ao' an' ac', .slice bo' bn' bc'] 24)).alloc (.cells #[.slice none 0 0, .slice none 0 0] 24)).alloc (.cells #[.slice ao an ac, .slice bo bn bc, .slice ao' an' ac', .slice bo' bn' bc'] 24) := ⟨_, rfl⟩
  have G1 : Gr w W1 := by rw [hW1]; exact (((Gr.alloc _ _).trans (Gr.alloc _ _)).trans (Gr.alloc _ _)).trans (Gr.alloc _ _)
  have kr : Blk W1 (w.heap.size + 1 + 1) #[.slice none 0 0, .slice none 0 0] 24 := by
    rw [hW1]
    have := (Blk.new ((w.alloc (.cells #[.slice ao an ac, .slice bo bn bc] 24)).alloc (.cells #[.slice ao' an' ac', .slice bo' bn' bc'] 24)) #[.slice none 0 0, .slice none 0 0] 24).alloc (.cells #[.slice ao an ac, .slice bo bn bc, .slice ao' an' ac', .slice bo' bn' bc'] 24)
    simpa using this
  have ks : Blk W1 (w.heap.size + 1 + 1 + 1) #[.slice ao an ac, .slice bo bn bc, .slice ao' an' ac', .slice bo' bn' bc'] 24 := by
    rw [hW1]
    have := Blk.new (((w.alloc (.cells #[.slice ao an ac, .slice bo bn bc] 24)).alloc (.cells #[.slice ao' an' ac', .slice bo' bn' bc'] 24)).alloc (.cells #[.slice none 0 0, .slice none 0 0] 24)) #[.slice ao an ac, .slice bo bn bc, .slice ao' an' ac', .slice bo' bn' bc'] 24
    simpa using this
  rw [← hW1]
  clear hW1
  have hseg := segT_two (x := ⟨ao, an, ac, bo, bn, bc⟩) (y := ⟨ao', an', ac', bo', bn', bc'⟩) ks (HX.out.later G1.below) (HY.out.later G1.below)
  have hC := check11_any _ _ W1 hseg (HS.out.mono (by decide))
  rw [← HCK.out] at hC
  have HC := Lib.hid hC
  have HSEG := Lib.hid hseg
  have HKR := Lib.hid kr
  have LOW := Lib.hid G1.below
  clear G1 kr ks hseg hC
  refine HC.out.mono ?_
  rintro e w2 ⟨rfl, b2⟩
  have kr2 := HKR.out.later b2
  have KR2 := Lib.hid kr2
  have LOW2 := Lib.hid (below_later LOW.out b2)
  have HSEG2 := Lib.hid (HSEG.out.later b2)
  have c0 := kr2.cell 0
  have c1 := kr2.cell 1
  have f0 := kr2.frozen 0
  have f1 := kr2.frozen 1
  have l2 := kr2.lt
  simp only [List.getElem?_toArray, List.getElem?_cons_zero, List.getElem?_cons_succ] at c0 c1
  clear b2 kr2
  by_cases hg : goodT [t, u]
  · have e1 : ck = 0 := HCK.out.trans (ckT_yes hg)
    have e2 : rs = joinT o [t, u] := HRS.out.trans (if_pos hg)
    have HG := Lib.hid hg
    subst e1 e2
    clear hg c0 c1 f0 f1 l2
    go_wp2_with fail
    refine (joined_any o _ [t, u] _ HSEG2.out HW.out 100000 HS.out (by simp) (by decide) (by simp)).mono ?_
    rintro e w3 ⟨⟨zo, zn, zc, yo, yn, yc⟩, rfl, q3, b3⟩
    have kr3 := KR2.out.later b3
    have KR3 := Lib.hid kr3
    have LOW3 := Lib.hid (below_later LOW2.out b3)
    have Q3 := Lib.hid (q3.mono (B' := w.heap.size) LOW2.out.size)
    have c0 := kr3.cell 0
    have c1 := kr3.cell 1
    have f0 := kr3.frozen 0
    have f1 := kr3.frozen 1
    have l2 := kr3.lt
    simp only [List.getElem?_toArray, List.getElem?_cons_zero, List.getElem?_cons_succ] at c0 c1
    clear b3 kr3 q3
    go_wp2
    have kf := KR3.out.setT (u := .slice zo zn zc) (v := .slice yo yn yc)
    have C0 := kf.cell 0
    have C1 := kf.cell 1
    simp only [List.getElem?_toArray, List.getElem?_cons_zero, List.getElem?_cons_succ] at C0 C1
    refine bodyPost_ret (v := .tuple #[.agg #[.slice zo zn zc, .slice yo yn yc], .int .i64 0]) (by simp [results, Try.results25, go_sem, C0, C1]) rfl ⟨⟨zo, zn, zc, yo, yn, yc⟩, rfl, ⟨?_, ?_⟩, (LOW3.out.setCell (by simp; omega) _).setCell (by simp; omega) _⟩
    · exact Q3.out.1.otherB2 KR3.out (by decide) 0 1 (.slice zo zn zc) (.slice yo yn yc)
    · exact Q3.out.2.otherB2 KR3.out (by decide) 0 1 (.slice zo zn zc) (.slice yo yn yc)
  · have e1 : ck = 210 := HCK.out.trans (ckT_no hg)
    have e2 : rs = ([], []) := HRS.out.trans (if_neg hg)
    subst e1 e2
    clear hg
    have hbd : ∀ w, (Instr.build 24 #[]).run Try.prog w = .ok (.agg #[.slice none 0 0, .slice none 0 0]) w := fun w => by kernel_rfl
    go_wp2
    have kf := KR2.out.setT (u := .slice none 0 0) (v := .slice none 0 0)
    have C0 := kf.cell 0
    have C1 := kf.cell 1
    simp only [List.getElem?_toArray, List.getElem?_cons_zero, List.getElem?_cons_succ] at C0 C1
    refine bodyPost_ret (v := .tuple #[.agg #[.slice none 0 0, .slice none 0 0], .int .i64 210]) (by simp [results, Try.results25, go_sem, C0, C1]) rfl ⟨⟨none, 0, 0, none, 0, 0⟩, rfl, ⟨OwnP.nil _ _ _, OwnP.nil _ _ _⟩, (LOW2.out.setCell (by simp; omega) _).setCell (by simp; omega) _⟩
end Go.Proofs.Ytifhfeldjfcbfaa

