/- small, own, cut, same. -/
import Derived.Test.YtfnlegnieilcbaaJ13
namespace Go.Proofs.Ytfnlegnieilcbaa
open Go.RowKit Go.Proofs.Kit Go.Shelf

set_option maxHeartbeats 1000000 in
theorem small_any (oT oS : Option Addr) (nT cT nS cS : Nat) (w : World) (hT : nT ≤ 9223372036854775807) (hS : nS ≤ 9223372036854775807) (b : Bool) (hb : b = true ↔ (nT ≤ 40 ∧ nS ≤ 128)) :
    Calls Try.prog 9 #[.agg #[.slice oT nT cT, .slice oS nS cS]] w fun e w' => e = .returned (.bool b) ∧ Gr w w' := by
  have HB := Lib.hid hb
  clear hb
  by_cases h1 : nT ≤ 40
  · have h1' : decide ((nT : Int) ≤ 40) = true := by rw [decide_eq_true_eq]; omega
    by_cases h2 : nS ≤ 128
    · have h2' : decide ((nS : Int) ≤ 128) = true := by rw [decide_eq_true_eq]; omega
      obtain rfl := bT HB.out ⟨h1, h2⟩
      go_enter Try.func9, Try.ntmps9
      go_wp2
      go_ret
      exact ⟨rfl, Gr.alloc _ _⟩
    · have h2' : decide ((nS : Int) ≤ 128) = false := by rw [decide_eq_false_iff_not]; omega
      obtain rfl := bF HB.out (fun e => h2 e.2)
      go_enter Try.func9, Try.ntmps9
      go_wp2
      go_ret
      exact ⟨rfl, Gr.alloc _ _⟩
  · have h1' : decide ((nT : Int) ≤ 40) = false := by rw [decide_eq_false_iff_not]; omega
    obtain rfl := bF HB.out (fun e => h1 e.1)
    go_enter Try.func9, Try.ntmps9
    go_wp2
    go_ret
    exact ⟨rfl, Gr.alloc _ _⟩

/-- A text's first 60 bytes. -/
def cutS (s : ByteArray) : ByteArray := s.extract 0 (min s.size 60)
theorem cutS_small {s : ByteArray} (h : s.size ≤ 60) : cutS s = s := by
  unfold cutS
  rw [show min s.size 60 = s.size by omega]
  exact ByteArray.extract_zero_size
theorem cutS_big {s : ByteArray} (h : ¬ s.size ≤ 60) : cutS s = s.extract 0 60 := by
  unfold cutS
  rw [show min s.size 60 = 60 by omega]
theorem cutS_size (s : ByteArray) : (cutS s).size ≤ 60 := by unfold cutS; rw [ByteArray.size_extract]; omega
set_option maxHeartbeats 1000000 in
theorem cut_any (s : ByteArray) (hs : s.size ≤ 9223372036854775807) (w : World) : Calls Try.prog 13 #[.string s] w fun e w' => e = .returned (.string (cutS s)) ∧ w' = w := by
  go_enter Try.func13, Try.ntmps13
  go_wp2
  all_goals
    go_ret
    first
      | exact ⟨by rw [cutS_small (by omega)]; rfl, rfl⟩
      | exact ⟨by rw [cutS_big (by omega)]; rfl, rfl⟩
set_option maxHeartbeats 4000000 in
theorem own_any (oT oS : Option Addr) (nT cT nS cS : Nat) (T : List ByteArray) (S : List Int) (w : World) (hlT : T.length = nT) (hlS : S.length = nS) (hT : nT ≤ 100000) (hS : nS ≤ 100000) (aT : ArgV w oT cT (T.map Value.string)) (aS : ArgV w oS cS (S.map (Value.int .i64))) :
    Calls Try.prog 10 #[.agg #[.slice oT nT cT, .slice oS nS cS]] w fun e w' => ∃ vT vS, e = .returned (.agg #[vT, vS]) ∧ Ow 9 w.heap.size w' vT (T.map Value.string) ∧ Ow 3 w.heap.size w' vS (S.map (Value.int .i64)) ∧ Below w.heap.size w w' := by
  have hT1 : (T.map Value.string).length = nT := by simpa using hlT
  have hS1 : (S.map (Value.int .i64)).length = nS := by simpa using hlS
  have hT2 : ∀ y ∈ T.map Value.string, y.oneCell' = true := by intro y hy; obtain ⟨s, _, rfl⟩ := List.mem_map.1 hy; rfl
  have hS2 : ∀ y ∈ S.map (Value.int .i64), y.oneCell' = true := by intro y hy; obtain ⟨s, _, rfl⟩ := List.mem_map.1 hy; rfl
  have AT := Lib.hid aT
  have AS := Lib.hid aS
  have HT1 := Lib.hid hT1
  have HS1 := Lib.hid hS1
  have HT2 := Lib.hid hT2
  have HS2 := Lib.hid hS2
  clear aT aS hT1 hS1 hT2 hS2 hlT hlS
  go_enter Try.func10, Try.ntmps10
  go_wp2
  obtain ⟨W2, hW2⟩ : ∃ W2, W2 = (w.alloc (.cells #[.slice oT nT cT, .slice oS nS cS] 25)).alloc (.cells #[.slice none 0 0, .slice none 0 0] 25) := ⟨_, rfl⟩
  have g2 : Gr w W2 := by rw [hW2]; exact (Gr.alloc _ _).trans (Gr.alloc _ _)
  have kb : Blk W2.drew w.heap.size #[.slice oT nT cT, .slice oS nS cS] 25 := by rw [hW2]; exact ((Blk.new _ _ _).alloc _).drew
  have kr : Blk W2.drew (w.heap.size + 1) #[.slice none 0 0, .slice none 0 0] 25 := by rw [hW2]; have := (Blk.new (w.alloc (.cells #[.slice oT nT cT, .slice oS nS cS] 25)) #[.slice none 0 0, .slice none 0 0] 25).drew; simpa using this
  have bc : Below w.heap.size w W2.drew := g2.below.drew
  have hw3 : w.heap.size + 1 < W2.heap.size := kr.lt
  rw [← hW2]
  clear hW2
  obtain ⟨c0, c1⟩ : W2.cell? ⟨w.heap.size, 0, none⟩ = some (.slice oT nT cT) ∧ W2.cell? ⟨w.heap.size, 1, none⟩ = some (.slice oS nS cS) := ⟨kb.cell 0, kb.cell 1⟩
  go_region_law (first | (go_simp; go_at_call 28; (with_reducible refine (clones_any _ _ _ _ _ HT1.out hT HT2.out (AT.out.later bc)).mono ?_); rintro e wS ⟨vT, rfl, hTO, bS⟩; obtain ⟨o1, x1, rfl⟩ := hTO.shape; have bc := bc.trans (bS.mono bc.size); have kb := kb.later bS; have kr := kr.later bS; obtain ⟨c0, c1⟩ : wS.cell? ⟨w.heap.size, 0, none⟩ = some (.slice oT nT cT) ∧ wS.cell? ⟨w.heap.size, 1, none⟩ = some (.slice oS nS cS) := ⟨kb.cell 0, kb.cell 1⟩; obtain ⟨r0, r1, s0, s1, m0⟩ : wS.cell? ⟨w.heap.size + 1, 0, none⟩ = some (.slice none 0 0) ∧ wS.cell? ⟨w.heap.size + 1, 1, none⟩ = some (.slice none 0 0) ∧ wS.frozen? ⟨w.heap.size + 1, 0, none⟩ = false ∧ wS.frozen? ⟨w.heap.size + 1, 1, none⟩ = false ∧ w.heap.size + 1 < wS.heap.size := ⟨kr.cell 0, kr.cell 1, kr.frozen 0, kr.frozen 1, kr.lt⟩) | (go_simp; go_at_call 29; (with_reducible refine (clonei_any _ _ _ _ _ HS1.out hS HS2.out (AS.out.later bc)).mono ?_); rintro e wI ⟨vS, rfl, hSO, bI⟩; obtain ⟨o2, x2, rfl⟩ := hSO.shape; have bc := bc.trans (bI.mono bc.size); have kb := kb.later bI; have kr := kr.later bI; obtain ⟨c0, c1⟩ : wI.cell? ⟨w.heap.size, 0, none⟩ = some (.slice oT nT cT) ∧ wI.cell? ⟨w.heap.size, 1, none⟩ = some (.slice oS nS cS) := ⟨kb.cell 0, kb.cell 1⟩; obtain ⟨r0, r1, s0, s1, m0⟩ : wI.cell? ⟨w.heap.size + 1, 0, none⟩ = some (.slice none 0 0) ∧ wI.cell? ⟨w.heap.size + 1, 1, none⟩ = some (.slice none 0 0) ∧ wI.frozen? ⟨w.heap.size + 1, 0, none⟩ = false ∧ wI.frozen? ⟨w.heap.size + 1, 1, none⟩ = false ∧ w.heap.size + 1 < wI.heap.size := ⟨kr.cell 0, kr.cell 1, kr.frozen 0, kr.frozen 1, kr.lt⟩))
  all_goals
    have kR := (kr.set 0 (.slice o1 T.length x1)).set 1 (.slice o2 S.length x2)
    simp only [List.setIfInBounds_toArray, List.set_cons_zero, List.set_cons_succ] at kR
    have C0 := kR.cell 0
    have C1 := kR.cell 1
    simp only [List.getElem?_toArray, List.getElem?_cons_zero, List.getElem?_cons_succ] at C0 C1
    rw [List.length_map] at hTO hSO
    have hw2 : w.heap.size ≤ W2.heap.size := g2.below.size
    go_wp2
    refine bodyPost_ret (v := .agg #[.slice o1 T.length x1, .slice o2 S.length x2]) (by simp [results, Try.results10, go_sem, C0, C1]) rfl ⟨_, _, rfl, ?_, ?_, (bc.setCell (by simp) _).setCell (by simp) _⟩
    · first
        | exact ((hTO.low_set (by simpa using hw3) _).low_set (by simpa using hw3) _).mono (by simpa using hw2)
        | exact (((hTO.later bI).low_set (by simpa using hw3) _).low_set (by simpa using hw3) _).mono (by simpa using hw2)
        | exact ((hTO.low_set (by have := bI.size; simp at this ⊢; omega) _).low_set (by have := bI.size; simp at this ⊢; omega) _).mono (by have := bI.size; simp at this ⊢; omega)
    · first
        | exact ((hSO.low_set (by simpa using hw3) _).low_set (by simpa using hw3) _).mono (by simpa using hw2)
        | exact (((hSO.later bS).low_set (by simpa using hw3) _).low_set (by simpa using hw3) _).mono (by simpa using hw2)
        | exact ((hSO.low_set (by have := bS.size; simp at this ⊢; omega) _).low_set (by have := bS.size; simp at this ⊢; omega) _).mono (by have := bS.size; simp at this ⊢; omega)
end Go.Proofs.Ytfnlegnieilcbaa
