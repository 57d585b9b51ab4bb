import Derived.Test.YtfknocgmobddmaaX1
import Derived.Laws.BytesString
import Derived.Laws.BytesArg
import Derived.Laws.Cells
namespace Go.Proofs.Ytfknocgmobddmaa
open Go.RowKit Go.Proofs.Kit Go.Shelf
attribute [local go_sem] Oper.semAt_some

theorem digits_in (n : Nat) (a b : Int) (w : World) :
    CallsIn Fence.wide n Try.prog 47 #[WV a b] w fun e w' => e = .returned (.func (.func 60) #[] #[.pointer (some ⟨w.heap.size, 0, none⟩)]) ∧ w' = w.alloc (.cells #[.int .u64 a, .int .u64 b] 26) := by
  refine callsIn_wide.2 ?_
  have hmf : ∀ (fn : Fn) (first cap : Array Value) (w : World), (Instr.makeFunc fn first cap).run Try.prog w = .ok (.func fn first cap) w := fun _ _ _ _ => rfl
  go_enter Try.func47, Try.ntmps47
  go_wp2
  go_ret
  exact ⟨rfl, rfl⟩

/-- The row of digits, as far as it is filled, from its end on. -/
def rowOf (pre : List (Fin 10)) : Array Value := (List.replicate (39 - pre.length) (Value.int .u8 0) ++ pre.reverse.map (fun d => Value.int .u8 (48 + (d.val : Int)))).toArray
theorem rowOf_nil : rowOf [] = #[.int .u8 0, .int .u8 0, .int .u8 0, .int .u8 0, .int .u8 0, .int .u8 0, .int .u8 0, .int .u8 0, .int .u8 0, .int .u8 0, .int .u8 0, .int .u8 0, .int .u8 0, .int .u8 0, .int .u8 0, .int .u8 0, .int .u8 0, .int .u8 0, .int .u8 0, .int .u8 0, .int .u8 0, .int .u8 0, .int .u8 0, .int .u8 0, .int .u8 0, .int .u8 0, .int .u8 0, .int .u8 0, .int .u8 0, .int .u8 0, .int .u8 0, .int .u8 0, .int .u8 0, .int .u8 0, .int .u8 0, .int .u8 0, .int .u8 0, .int .u8 0, .int .u8 0] := rfl
theorem rowOf_set {pre : List (Fin 10)} {m : Nat} (h : m + 1 + pre.length = 39) (x : Fin 10) : (rowOf pre).setIfInBounds m (.int .u8 (48 + (x.val : Int))) = rowOf (pre ++ [x]) := by
  unfold rowOf
  have e1 : 39 - pre.length = m + 1 := by omega
  have e2 : 39 - (pre ++ [x]).length = m := by simp; omega
  rw [e1, e2, List.replicate_succ']
  simp only [List.setIfInBounds_toArray, List.append_assoc, List.reverse_append, List.reverse_cons, List.reverse_nil, List.nil_append, List.singleton_append, List.map_cons]
  congr 1
  rw [List.set_append_right _ _ (by simp)]
  simp
theorem rowOf_at {pre : List (Fin 10)} {m : Nat} (h : m + 1 + pre.length = 39) : (rowOf pre)[m]? = some (.int .u8 0) := by
  unfold rowOf
  have e1 : 39 - pre.length = m + 1 := by omega
  rw [e1]
  simp [List.getElem?_append]

/-- The text of digits, the last one first. -/
def txt (l : List (Fin 10)) : List UInt8 := l.reverse.map fun d => UInt8.ofNat (48 + d.val)
/-- A number's text. -/
def textOf (N : Nat) : List UInt8 := txt (digs N)
theorem addr_add (b m j : Nat) : (⟨b, m, none⟩ : Addr).add j = ⟨b, m + j, none⟩ := by
  unfold Addr.add; split <;> simp_all
theorem slice_row (b m : Nat) (hm : m < 39) (W : World) : (Instr.sliceAt 69 (.pointer (some ⟨b, 0, none⟩)) (some (.int .i64 (m : Int))) none none).run Try.prog W = .ok (.slice (some ⟨b, m, none⟩) (39 - m) (39 - m)) W := by
  have ha : Try.prog.arrayLen 69 = 39 := by kernel_rfl
  have hs : (sizeOf (Try.prog.elem 69)).run Try.prog W = .ok 1 W := by kernel_rfl
  rw [run_sliceAt_array_l W 69 ⟨b, 0, none⟩ (by kernel_rfl) .i64 m (by omega) (by rw [ha]; omega), hs, ha]
  simp only [slicedAt, Int.toNat_natCast, show ¬ 39 = m by omega, if_false, addr_add, Nat.zero_add, Result.andThen, Nat.mul_one]
theorem row_text {W : World} {b m : Nat} {pre : List (Fin 10)} (h : Blk W b (rowOf pre) 69) (hm : m + pre.length = 39) : (convert 73 9 (.slice (some ⟨b, m, none⟩) (39 - m) (39 - m))).run Try.prog W = .ok (.string ⟨(txt pre).toArray⟩) W := by
  rw [run_convert_bytes_string W 73 9 5 _ _ _ (by kernel_rfl) (by kernel_rfl) (by kernel_rfl)]
  have hl : (loadCells ⟨b, m, none⟩ (39 - m)).run Try.prog W = .ok ((pre.reverse.map fun d => (48 + (d.val : Int))).map (Value.int .u8)).toArray W := by
    have := run_loadCells_list (P := Try.prog) (w := W) ⟨b, m, none⟩ ((pre.reverse.map fun d => (48 + (d.val : Int))).map (Value.int .u8)) (fun j v hj => by
      rw [addr_add, h.cell]
      unfold rowOf
      rw [List.getElem?_toArray, List.getElem?_append_right (by simp; omega)]
      simp only [List.length_replicate]
      rw [show m + j - (39 - pre.length) = j by omega, ← hj, List.map_map]
      rfl)
    simp only [List.length_map, List.length_reverse] at this
    rw [show 39 - m = pre.length by omega]
    exact this
  rw [run_bytesToString W _ _ _ _ hl, foldl_push_bytes]
  have e : (List.map (fun n : Int => UInt8.ofNat n.toNat) (List.map (fun d : Fin 10 => (48 + (d.val : Int))) pre.reverse)) = txt pre := by
    unfold txt
    rw [List.map_map]
    apply List.map_congr_left
    intro d _
    show UInt8.ofNat ((48 + (d.val : Int)).toNat) = _
    rw [show (48 + (d.val : Int)).toNat = 48 + d.val by omega]
  rw [e]
  simp

set_option maxRecDepth 100000 in
set_option maxHeartbeats 1000000 in
theorem text_in (N : Nat) (hN : (N : Int) < Big) (w : World) :
    CallsIn Fence.wide 6 Try.prog 25 #[WV (hiW N) (loW N)] w fun e w' => e = .returned (.string ⟨(textOf N).toArray⟩) ∧ Below w.heap.size w w' := by
  refine callsIn_of_wp_marks Try.func25 rfl trivial ?_ rfl
  simp only [Try.ntmps25, List.size_toArray, List.length_cons, List.length_nil, Nat.reduceAdd, Nat.reduceSub, Array.replicate_succ, Array.replicate_zero, List.push_toArray, List.append_toArray, List.nil_append, List.cons_append]
  gi_wp2_with fail
  rw [← rowOf_nil]
  obtain ⟨W0, hW0⟩ : ∃ W0, W0 = (((w.alloc (.cells #[.int .u64 (hiW N), .int .u64 (loW N)] 26)).alloc (.cells (rowOf []) 69)).alloc (.cells #[.int .i64 39] 3)) := ⟨_, rfl⟩
  have B0 : Below w.heap.size w W0 := by rw [hW0]; exact (below2 w _ _).alloc (by simp; omega) _
  have s0 : W0.heap.size = w.heap.size + 3 := by rw [hW0]; simp
  have bR : Blk W0 (w.heap.size + 1) (rowOf []) 69 := by rw [hW0]; exact (blk_at _ _ _ (by simp)).alloc _
  have bA : Blk W0 (w.heap.size + 1 + 1) #[.int .i64 39] 3 := by rw [hW0]; exact blk_at _ _ _ (by simp)
  rw [← hW0]
  clear hW0
  have S0 := Lib.hid s0; clear s0
  refine ⟨trivial, (digits_in _ _ _ _).mono ?_⟩
  rintro e w' ⟨rfl, rfl⟩
  gi_wp2_with fail
  have hseq := digits1_in 5 (by decide) W0.heap.size N hN (W0.alloc (.cells #[.int .u64 (hiW N), .int .u64 (loW N)] 26)) (Blk.new _ _ _)
  have s1 : (W0.alloc (.cells #[.int .u64 (hiW N), .int .u64 (loW N)] 26)).heap.size = w.heap.size + 4 := by simp [S0.out]
  have bR1 := bR.alloc (.cells #[.int .u64 (hiW N), .int .u64 (loW N)] 26)
  have bA1 := bA.alloc (.cells #[.int .u64 (hiW N), .int .u64 (loW N)] 26)
  have B1 : Below w.heap.size w (W0.alloc (.cells #[.int .u64 (hiW N), .int .u64 (loW N)] 26)) := B0.alloc (by have := S0.out; omega) _
  have S1 := Lib.hid s1; clear s1
  refine rangeB (α := Fin 10) rfl (by decide) (gf := 60) (lb := #[.pointer (some ⟨W0.heap.size, 0, none⟩)]) rfl trivial (enters_of Try.func60 (by kernel_rfl) rfl) hseq (Below.refl _ _) (fun _ => rfl)
    (fun pre W => (∃ m : Nat, m + pre.length = 39 ∧ Blk W (w.heap.size + 1 + 1) #[.int .i64 (m : Int)] 3) ∧ Blk W (w.heap.size + 1) (rowOf pre) 69 ∧ Below w.heap.size w W)
    (fun _ _ _ => False) ?low (fun _ _ _ _ h _ => h) ⟨⟨39, rfl, bA1⟩, bR1, B1⟩
    (fun x => { tmps := #[WV (hiW N) (loW N), .pointer (some ⟨w.heap.size, 0, none⟩), .string ⟨#[]⟩, .pointer (some ⟨w.heap.size + 1, 0, none⟩), .pointer (some ⟨w.heap.size + 1 + 1, 0, none⟩), .int .u8 (x.val : Int), .agg #[.int .u64 (hiW N), .int .u64 (loW N)], .func (.func 60) #[] #[.pointer (some ⟨W0.heap.size, 0, none⟩)], .int .u8 (x.val : Int), undef, undef, undef, undef, undef, undef, undef, undef, undef], defers := [] }) ?assign ?body ?done ?stop
  case low =>
    rintro pre X X' ⟨⟨m, hm, h1⟩, h2, h3⟩ hb
    rw [S1.out] at hb
    exact ⟨⟨m, hm, h1.below hb (by omega)⟩, h2.below hb (by omega), h3.trans (hb.mono (by omega))⟩
  case assign =>
    intro l x W K hK
    gi_wp2
    exact hK
  case body =>
    rintro l pre x W ⟨⟨m, hm, h1⟩, h2, h3⟩ hlen hsz
    obtain ⟨m, rfl⟩ : ∃ m', m = m' + 1 := ⟨m - 1, by omega⟩
    have c0 := h1.cell 0
    have f0 := h1.frozen 0
    have r0 := h2.cell m
    have g0 := h2.frozen m
    rw [rowOf_at (by omega)] at r0
    simp only [List.getElem?_toArray, List.getElem?_cons_zero] at c0
    have hx : (x.val : Int) < 10 := by have := x.2; omega
    have hx0 : (0 : Int) ≤ (x.val : Int) := by omega
    have hm1 : (m : Int) < 39 := by omega
    gi_wp2
    have hs1 := S1.out
    refine ⟨((Above.refl _ _).setCell (by simp only [hs1]; omega) _).setCell (by simp only [hs1]; omega) _, ⟨m, by simp; omega, ?_⟩, ?_, (h3.setCell (by simp; omega) _).setCell (by simp) _⟩
    · exact (h1.set 0 _).other (by simp) _
    · have := (h2.other (p := ⟨w.heap.size + 1 + 1, 0, none⟩) (by simp) (.int .i64 m)).set m (.int .u8 (48 + (x.val : Int)))
      rwa [rowOf_set (by omega)] at this
  case done =>
    rintro D ys W rfl ⟨⟨m, hm, h1⟩, h2, h3⟩ hD hK
    have c0 := h1.cell 0
    simp only [List.getElem?_toArray, List.getElem?_cons_zero] at c0
    have hlen : 1 ≤ (digs N).length := by rw [digs]; simp
    have hsl := fun W => slice_row (w.heap.size + 1) m (by omega) W
    have hcv := row_text h2 hm
    gi_wp2
    refine ⟨by simp, .inl ⟨_, _, rfl, run_takeDeferred hK, ?_⟩⟩
    exact ⟨_, results_tmp rfl _ _ _, rfl, h3.trans (below_put W _ (by have := S1.out; omega))⟩
  case stop =>
    rintro D c pre W _ h
    exact h.elim
end Go.Proofs.Ytfknocgmobddmaa
