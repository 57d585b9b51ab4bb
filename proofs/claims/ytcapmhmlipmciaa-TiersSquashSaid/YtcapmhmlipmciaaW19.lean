/- small of stage 11's laws. -/
import Derived.Test.YtcapmhmlipmciaaW17
namespace Go.Proofs.Kit
open Go.RowKit
def smallT : List Tr := [([(1, 1), (2, 2)], []), ([(3, 3)], [(1, 1)])]
theorem smallT_w : Wl smallT := by
  intro t ht
  simp [smallT] at ht
  rcases ht with rfl | rfl <;> constructor <;> intro p hp <;> simp at hp
  · rcases hp with rfl | rfl <;> simp [Wp, Wd]
  · subst hp; simp [Wp, Wd]
  · subst hp; simp [Wp, Wd]
theorem smallT_s : SmT 10000 smallT := by
  intro t ht
  simp [smallT] at ht
  rcases ht with rfl | rfl <;> simp
end Go.Proofs.Kit
namespace Go.Proofs.Ytcapmhmlipmciaa
open Go.RowKit Go.Proofs.Kit Go.Shelf
set_option maxRecDepth 100000 in
set_option maxHeartbeats 1000000 in
theorem pair11_any (x : Int) (w : World) : Calls Try.prog 35 #[.int .u64 x] w fun e w' => e = .returned (PV x x) ∧ Gr w w' := by
  go_enter Try.func35, Try.ntmps35
  go_wp2
  have C0 := (Blk.new w #[.int .u64 x, .int .u64 x] 36).cell 0
  have C1 := (Blk.new w #[.int .u64 x, .int .u64 x] 36).cell 1
  simp only [List.getElem?_toArray, List.getElem?_cons_zero, List.getElem?_cons_succ] at C0 C1
  exact bodyPost_ret (v := PV x x) (by simp [results, Try.results35, go_sem, C0, C1]) rfl ⟨rfl, Gr.alloc _ _⟩
set_option maxRecDepth 100000 in
set_option maxHeartbeats 4000000 in
theorem small11_any (w : World) : Calls Try.prog 34 #[] w fun e w' => ∃ v', e = .returned v' ∧ OwnT 36 38 w.heap.size w' v' smallT ∧ Below w.heap.size w w' := by
  have hP := fun (x : Int) W => pair11_any x W
  have HP := Lib.hid hP
  clear hP
  have hbd : ∀ (a b c : _) w, (Instr.build 38 #[(0, .slice a b c)]).run Try.prog w = .ok (.agg #[.slice a b c, .slice none 0 0]) w := fun a b c w => by kernel_rfl
  go_enter Try.func34, Try.ntmps34
  go_wp2_with fail
  refine (HP.out 1 _).mono ?_
  rintro e w1 ⟨rfl, g1⟩
  go_wp2_with fail
  refine (HP.out 2 _).mono ?_
  rintro e w2 ⟨rfl, g2⟩
  have L2 := Lib.hid (g1.trans g2).below
  have O1 : OwnP 36 w.heap.size (w2.alloc (.cells #[.int .u64 1, .int .u64 1, .int .u64 2, .int .u64 2] 36)) (.slice (some ⟨w2.heap.size, 0, none⟩) 2 2) [(1, 1), (2, 2)] := OwnP.new (l := [(1, 1), (2, 2)]) L2.out.size rfl (by simp)
  have HO1 := Lib.hid O1
  clear g1 g2 O1
  go_wp2_with fail
  refine (HP.out 3 _).mono ?_
  rintro e w3 ⟨rfl, g3⟩
  have L3 := Lib.hid (below_later (L2.out.alloc L2.out.size _) g3.below)
  have HO13 := Lib.hid (HO1.out.later g3.below)
  have O2 : OwnP 36 w.heap.size (w3.alloc (.cells #[.int .u64 3, .int .u64 3] 36)) (.slice (some ⟨w3.heap.size, 0, none⟩) 1 1) [(3, 3)] := OwnP.new (l := [(3, 3)]) L3.out.size rfl (by simp)
  have HO2 := Lib.hid O2
  clear g3 O2
  go_wp2_with fail
  refine (HP.out 1 _).mono ?_
  rintro e w4 ⟨rfl, g4⟩
  have L4 := Lib.hid (below_later (L3.out.alloc L3.out.size _) g4.below)
  have HO14 := Lib.hid ((HO13.out.alloc _).later g4.below)
  have HO24 := Lib.hid (HO2.out.later g4.below)
  have O3 : OwnP 36 w.heap.size (w4.alloc (.cells #[.int .u64 1, .int .u64 1] 36)) (.slice (some ⟨w4.heap.size, 0, none⟩) 1 1) [(1, 1)] := OwnP.new (l := [(1, 1)]) L4.out.size rfl (by simp)
  have HO3 := Lib.hid O3
  clear g4 O3
  go_wp2
  go_ret
  have gA := Gr.alloc (w4.alloc (.cells #[.int .u64 1, .int .u64 1] 36)) (.cells #[.slice (some ⟨w2.heap.size, 0, none⟩) 2 2, .slice none 0 0, .slice (some ⟨w3.heap.size, 0, none⟩) 1 1, .slice (some ⟨w4.heap.size, 0, none⟩) 1 1] 38)
  have L5 := L4.out.alloc L4.out.size (.cells #[.int .u64 1, .int .u64 1] 36)
  refine ⟨_, rfl, ⟨[⟨some ⟨w2.heap.size, 0, none⟩, 2, 2, none, 0, 0⟩, ⟨some ⟨w3.heap.size, 0, none⟩, 1, 1, some ⟨w4.heap.size, 0, none⟩, 1, 1⟩], ?_, rfl, fun i a b => ?_⟩, below_later L5 gA.below⟩
  · have := OwnE.new (E := tiE) (t := 38) (B := w.heap.size) (w := w4.alloc (.cells #[.int .u64 1, .int .u64 1] 36)) (l := [⟨some ⟨w2.heap.size, 0, none⟩, 2, 2, none, 0, 0⟩, ⟨some ⟨w3.heap.size, 0, none⟩, 1, 1, some ⟨w4.heap.size, 0, none⟩, 1, 1⟩]) (vs := #[.slice (some ⟨w2.heap.size, 0, none⟩) 2 2, .slice none 0 0, .slice (some ⟨w3.heap.size, 0, none⟩) 1 1, .slice (some ⟨w4.heap.size, 0, none⟩) 1 1]) L5.size rfl (by simp [tiE])
    simpa using this
  · have : i = 0 ∨ i = 1 := by simp at a; omega
    rcases this with rfl | rfl
    · exact ⟨(HO14.out.alloc _).later gA.below, OwnP.nil _ _ _⟩
    · exact ⟨(HO24.out.alloc _).later gA.below, HO3.out.later gA.below⟩
end Go.Proofs.Ytcapmhmlipmciaa

