import Derived.Test.YtfknocgmobddmaaR1
namespace Go.Proofs.Ytfknocgmobddmaa
open Go.RowKit Go.Proofs.Kit Go.Shelf

/-- The number that digits say. -/
def valOf (l : List UInt8) : Int := l.foldl (fun a c => a * 10 + ((c.toNat : Int) - 48)) 0
theorem valOf_snoc (l : List UInt8) (c : UInt8) : valOf (l ++ [c]) = valOf l * 10 + ((c.toNat : Int) - 48) := by simp [valOf]
theorem valFrom_ge (l : List UInt8) : ∀ a : Int, 0 ≤ a → l.all isDig = true → a ≤ l.foldl (fun a c => a * 10 + ((c.toNat : Int) - 48)) a := by
  induction l with
  | nil => intro a _ _; simp
  | cons c t ih =>
    intro a ha h
    simp only [List.all_cons, Bool.and_eq_true] at h
    have hc := h.1
    unfold isDig at hc
    simp only [Bool.and_eq_true, decide_eq_true_eq] at hc
    have := ih (a * 10 + ((c.toNat : Int) - 48)) (by omega) h.2
    simp only [List.foldl_cons]
    omega
theorem valOf_pos {l : List UInt8} (h : l.all isDig = true) : 0 ≤ valOf l := valFrom_ge l 0 (by decide) h
theorem valOf_take_le {l : List UInt8} (h : l.all isDig = true) (k : Nat) : valOf (l.take k) ≤ valOf l := by
  have e : valOf l = (l.drop k).foldl (fun a c => a * 10 + ((c.toNat : Int) - 48)) (valOf (l.take k)) := by
    unfold valOf; rw [← List.foldl_append, List.take_append_drop]
  rw [e]
  refine valFrom_ge _ _ (valOf_pos ?_) ?_
  · rw [List.all_eq_true] at h ⊢; exact fun x hx => h x (List.mem_of_mem_take hx)
  · rw [List.all_eq_true] at h ⊢; exact fun x hx => h x (List.mem_of_mem_drop hx)

/-- What stands while a number is read. -/
def VS (w : World) (s : ByteArray) (pos : Nat) (out : Int) (wr : World) : Prop :=
  Blk wr w.heap.size #[.int .u64 0, .int .u64 0] 26 ∧ Blk wr (w.heap.size + 1) #[.int .u64 (hiW out), .int .u64 (loW out)] 26 ∧ wr.heap[w.heap.size + 1 + 1]? = some (.stringIter s pos) ∧ Below w.heap.size w wr
section
variable {w wr w' : World} {s : ByteArray} {pos : Nat} {out : Int}
theorem VS.cells (h : VS w s pos out wr) : wr.cell? ⟨w.heap.size + 1, 0, none⟩ = some (.int .u64 (hiW out)) ∧ wr.cell? ⟨w.heap.size + 1, 1, none⟩ = some (.int .u64 (loW out)) ∧ VS w s pos out wr := ⟨h.2.1.cell 0, h.2.1.cell 1, h⟩
theorem VS.drew (h : VS w s pos out wr) : VS w s pos out wr.drew := ⟨h.1, h.2.1, h.2.2.1, h.2.2.2.drew⟩
theorem VS.later (h : VS w s pos out wr) (hb : Below wr.heap.size wr w') : VS w s pos out w' :=
  ⟨h.1.later hb, h.2.1.later hb, (hb.block _ (Array.getElem?_eq_some_iff.1 h.2.2.1).1).trans h.2.2.1, below_later h.2.2.2 hb⟩
theorem VS.alloc (h : VS w s pos out wr) (o : Obj) : VS w s pos out (wr.alloc o) := h.later ((Below.refl _ _).alloc (Nat.le_refl _) o)
theorem VS.at_ (h : VS w s pos out wr) (pos' : Nat) : VS w s pos' out (wr.iterAt (w.heap.size + 1 + 1) s pos') :=
  ⟨(Lib.iterAt_other _ _ _ _ _ (by omega)).trans h.1, (Lib.iterAt_other _ _ _ _ _ (by omega)).trans h.2.1, Lib.iterAt_heap _ _ _ _ _ h.2.2.1, Lib.below_iterAt h.2.2.2 (by omega) _ _⟩
theorem VS.set (h : VS w s pos out wr) (n : Int) : VS w s pos n ((wr.setCell ⟨w.heap.size + 1, 0, none⟩ (.int .u64 (hiW n))).setCell ⟨w.heap.size + 1, 1, none⟩ (.int .u64 (loW n))) :=
  ⟨(h.1.other (by simp) _).other (by simp) _, (h.2.1.set 0 _).set 1 _, (Below.heap_setCell _ _ _ _ (by simp)).trans ((Below.heap_setCell _ _ _ _ (by simp)).trans h.2.2.1), (h.2.2.2.setCell (by simp) _).setCell (by simp) _⟩
end
theorem wd10 : Wd 10 := by unfold Wd; omega
theorem num10 : num (0, 10) = 10 := rfl

set_option maxRecDepth 100000 in
set_option maxHeartbeats 1000000 in
theorem value_any (s : ByteArray) (w : World) (_hs : s.size ≤ 1000000) (hd : s.data.toList.all isDig = true) :
    Calls Try.prog 50 #[.string s] w fun e w' => Reck (valOf s.data.toList < Big) (valOf s.data.toList) e ∧ Below w.heap.size w w' := by
  have HD := Lib.hid hd; clear hd
  go_enter Try.func50, Try.ntmps50
  go_wp2
  go_loopw [5] (fun _ wr => ∃ pos : Nat, pos ≤ s.size ∧ valOf (s.data.toList.take pos) < Big ∧ VS w s pos (valOf (s.data.toList.take pos)) wr) (fun _ wr => s.size - wr.iterPos (w.heap.size + 1 + 1))
  case atStart =>
    refine ⟨0, Nat.zero_le _, by rw [List.take_zero]; decide, ((Blk.new _ _ _).alloc _).alloc _, ?_, ?_, ?_⟩
    · exact (blk_at _ _ _ (by simp)).alloc _
    · have := World.iter_heap ((w.alloc (.cells #[.int .u64 0, .int .u64 0] 26)).alloc (.cells #[.int .u64 0, .int .u64 0] 26)) s 0
      simpa using this
    · exact (below2 w _ _).alloc (by simp; omega) _
  case round =>
    obtain ⟨pos, hle, hob, hvs⟩ := hrel
    by_cases hlt : pos < s.size
    · have hall := HD.out
      obtain ⟨c, hc⟩ : ∃ c, c = s[pos] := ⟨_, rfl⟩
      have hdc : isDig c = true := by
        rw [List.all_eq_true] at hall
        exact hall c (by rw [hc, ByteArray.getElem_eq_getElem_data]; exact List.getElem_mem (by simpa using hlt))
      have hsn : valOf (s.data.toList.take (pos + 1)) = valOf (s.data.toList.take pos) * 10 + ((c.toNat : Int) - 48) := by rw [take_byte s pos hlt, valOf_snoc, hc]
      have hge2 : valOf (s.data.toList.take (pos + 1)) ≤ valOf s.data.toList := valOf_take_le hall _
      have hpos : 0 ≤ valOf (s.data.toList.take pos) := valOf_pos (by rw [List.all_eq_true] at hall ⊢; exact fun x hx => hall x (List.mem_of_mem_take hx))
      unfold isDig at hdc
      simp only [Bool.and_eq_true, decide_eq_true_eq] at hdc
      obtain ⟨c1, c2⟩ := hdc
      have hnx : ∀ ty, (Instr.next (.pointer (some ⟨w.heap.size + 1 + 1, 0, none⟩)) true ty).run Try.prog wr = .ok (.tuple #[.bool true, .int .i64 pos, .int .i32 (c.toNat : Int)]) (wr.iterAt (w.heap.size + 1 + 1) s (pos + 1)) := fun ty => by
        rw [Lib.run_next_ascii_at wr _ s pos ty hvs.2.2.1 hlt (by rw [← hc]; omega), hc]
      have HIT := Lib.hid hvs.2.2.1
      have hvs := hvs.at_ (pos + 1)
      obtain ⟨out, hout⟩ : ∃ out, out = valOf (s.data.toList.take pos) := ⟨_, rfl⟩
      rw [← hout] at hob hvs hsn hpos
      have HS := Lib.hid hsn
      have hge : out * 10 ≤ valOf s.data.toList := by omega
      have hgg : out * 10 + ((c.toNat : Int) - 48) ≤ valOf s.data.toList := by omega
      have HGE := Lib.hid hge
      have HGE2 := Lib.hid hgg
      clear hge hgg hge2 hsn hall hc hout
      have wO : Wd (hiW out) := hiW_wd hpos hob
      have ec1 : IntKind.i32.wrap ((c.toNat : Int) - 48) = (c.toNat : Int) - 48 := by rw [IntKind.wrap_i32]; omega
      have ec2 : IntKind.u64.wrap ((c.toNat : Int) - 48) = (c.toNat : Int) - 48 := by rw [IntKind.wrap_u64]; omega
      go_wp2_with fail
      refine wp_region_any (by kernel_rfl) ?_
      change wpAny _ _ _ _ _ _ _ (World.drew _)
      refine wpAny_take (i := 3) (v := ?_) rfl (by kernel_rfl) (by kernel_rfl) (by kernel_rfl) (fun _ _ _ h => h) (Or.inl ⟨by rfl, ?_⟩) ?_
      rotate_left
      · intro w1; go_simp; with_reducible rfl
      simp only [Act.put, List.getElem_toArray, List.getElem_cons_zero, List.getElem_cons_succ, List.setIfInBounds_toArray, List.set_cons_zero, List.set_cons_succ]
      refine wpAny_take (i := 4) (v := ?_) rfl (by kernel_rfl) (by kernel_rfl) (by kernel_rfl) (fun _ _ _ h => h) (Or.inl ⟨by rfl, ?_⟩) ?_
      rotate_left
      · intro w1; go_simp; with_reducible rfl
      simp only [Act.put, List.getElem_toArray, List.getElem_cons_zero, List.getElem_cons_succ, List.setIfInBounds_toArray, List.set_cons_zero, List.set_cons_succ]
      refine wpAny_take (i := 5) (v := ?_) rfl (by kernel_rfl) (by kernel_rfl) (by kernel_rfl) (fun _ _ _ h => h) (Or.inl ⟨by rfl, ?_⟩) ?_
      rotate_left
      · intro w1; go_simp; with_reducible rfl
      simp only [Act.put, List.getElem_toArray, List.getElem_cons_zero, List.getElem_cons_succ, List.setIfInBounds_toArray, List.set_cons_zero, List.set_cons_succ]
      refine wpAny_ready (rs := [0, 1]) (by kernel_rfl) (by simp) ?_
      refine AllReady.cons rfl (fun K hK => ?_) (AllReady.cons rfl (fun K hK => ?_) AllReady.nil)
      · obtain ⟨o0, o1, _⟩ := hvs.cells
        go_simp
        refine hK _ _ ?_
        clear hK K
        refine wpAny_ready (rs := [1]) (by kernel_rfl) (by simp) ?_
        refine AllReady.cons rfl (fun K hK => ?_) AllReady.nil
        go_simp
        refine (of_any _ _).mono ?_
        rintro e w1 ⟨rfl, hb1⟩
        have hv1 := hvs.drew.later hb1
        refine hK _ _ ?_
        clear hK K
        refine wpAny_ready (rs := [2]) (by kernel_rfl) (by simp) ?_
        refine AllReady.cons rfl (fun K hK => ?_) AllReady.nil
        go_simp
        refine (product_any _ _ _ _ wO (loW_wd _) wd0 wd10 _).mono ?_
        rintro e w2 ⟨hr2, hb2⟩
        rw [num_hl, num10] at hr2
        have hv2 := hv1.later hb2
        rcases hr2.fits with ⟨hc2, rfl⟩ | ⟨hc2, rfl⟩
        case inr =>
          exact (⟨rfl, Reck.no (by have := HGE.out; omega), hv2.2.2.2⟩ : Ovf w (valOf s.data.toList) w2)
        refine hK _ _ ?_
        clear hK K
        refine wpAny_ready (rs := [6]) (by kernel_rfl) (by simp) ?_
        refine AllReady.cons rfl (fun K hK => ?_) AllReady.nil
        go_simp
        refine (of_any _ _).mono ?_
        rintro e w3 ⟨rfl, hb3⟩
        have hv3 := hv2.later hb3
        refine hK _ _ ?_
        clear hK K
        refine wpAny_ready (rs := [7]) (by kernel_rfl) (by simp) ?_
        refine AllReady.cons rfl (fun K hK => ?_) AllReady.nil
        go_simp
        refine hK _ _ ?_
        clear hK K
        refine wpAny_ready (rs := [8]) (by kernel_rfl) (by simp) ?_
        refine AllReady.cons rfl (fun K hK => ?_) AllReady.nil
        go_simp
        have htot := total_blk [(hiW (out * 10), loW (out * 10)), (0, (c.toNat : Int) - 48)] 2 2 _ _ _ (Blk.new w3 #[.int .u64 (hiW (out * 10)), .int .u64 (loW (out * 10)), .int .u64 0, .int .u64 ((c.toNat : Int) - 48)] 26) rfl (by decide) (wp2 ⟨hiW_wd (by omega) hc2, loW_wd _⟩ ⟨wd0, ⟨by omega, by omega⟩⟩) (cells2 _ _)
        rw [show sumN [(hiW (out * 10), loW (out * 10)), (0, (c.toNat : Int) - 48)] = out * 10 + ((c.toNat : Int) - 48) by simp only [sumN, num_hl]; unfold num; simp] at htot
        refine htot.mono ?_
        rintro e w4 ⟨hr4, hb4⟩
        have hv4 := (hv3.alloc _).later hb4
        rcases hr4.fits with ⟨hc4, rfl⟩ | ⟨hc4, rfl⟩
        case inr =>
          exact (⟨rfl, Reck.no (by have := HGE2.out; omega), hv4.2.2.2⟩ : Ovf w (valOf s.data.toList) w4)
        refine hK _ _ ?_
        clear hK K
        have r0 := hv4.2.1.cell 0
        have r1 := hv4.2.1.cell 1
        have f0 := hv4.2.1.frozen 0
        have f1 := hv4.2.1.frozen 1
        simp only [List.getElem?_toArray, List.getElem?_cons_zero, List.getElem?_cons_succ] at r0 r1
        refine wpAny_ready (rs := [9]) (by kernel_rfl) (by simp) ?_
        refine AllReady.cons rfl (fun K hK => ?_) AllReady.nil
        go_simp
        refine hK _ _ ?_
        clear hK K
        refine wpAny_done (by kernel_rfl) ?_ _
        go_wp2_with fail
        have hv5 := hv4.set (out * 10 + ((c.toNat : Int) - 48))
        go_roundw
        case rel => exact ⟨pos + 1, by omega, by rw [HS.out]; exact hc4, by rw [HS.out]; exact hv5⟩
        case measure =>
          rw [iterPos_of hv5.2.2.1, iterPos_of HIT.out]
          omega
      · go_simp
        refine (of_any _ _).mono ?_
        rintro e w1 ⟨rfl, hb1⟩
        have hv1 := hvs.drew.later hb1
        refine hK _ _ ?_
        clear hK K
        obtain ⟨o0, o1, _⟩ := hv1.cells
        refine wpAny_ready (rs := [0]) (by kernel_rfl) (by simp) ?_
        refine AllReady.cons rfl (fun K hK => ?_) AllReady.nil
        go_simp
        refine hK _ _ ?_
        clear hK K
        refine wpAny_ready (rs := [2]) (by kernel_rfl) (by simp) ?_
        refine AllReady.cons rfl (fun K hK => ?_) AllReady.nil
        go_simp
        refine (product_any _ _ _ _ wO (loW_wd _) wd0 wd10 _).mono ?_
        rintro e w2 ⟨hr2, hb2⟩
        rw [num_hl, num10] at hr2
        have hv2 := hv1.later hb2
        rcases hr2.fits with ⟨hc2, rfl⟩ | ⟨hc2, rfl⟩
        case inr =>
          exact (⟨rfl, Reck.no (by have := HGE.out; omega), hv2.2.2.2⟩ : Ovf w (valOf s.data.toList) w2)
        refine hK _ _ ?_
        clear hK K
        refine wpAny_ready (rs := [6]) (by kernel_rfl) (by simp) ?_
        refine AllReady.cons rfl (fun K hK => ?_) AllReady.nil
        go_simp
        refine (of_any _ _).mono ?_
        rintro e w3 ⟨rfl, hb3⟩
        have hv3 := hv2.later hb3
        refine hK _ _ ?_
        clear hK K
        refine wpAny_ready (rs := [7]) (by kernel_rfl) (by simp) ?_
        refine AllReady.cons rfl (fun K hK => ?_) AllReady.nil
        go_simp
        refine hK _ _ ?_
        clear hK K
        refine wpAny_ready (rs := [8]) (by kernel_rfl) (by simp) ?_
        refine AllReady.cons rfl (fun K hK => ?_) AllReady.nil
        go_simp
        have htot := total_blk [(hiW (out * 10), loW (out * 10)), (0, (c.toNat : Int) - 48)] 2 2 _ _ _ (Blk.new w3 #[.int .u64 (hiW (out * 10)), .int .u64 (loW (out * 10)), .int .u64 0, .int .u64 ((c.toNat : Int) - 48)] 26) rfl (by decide) (wp2 ⟨hiW_wd (by omega) hc2, loW_wd _⟩ ⟨wd0, ⟨by omega, by omega⟩⟩) (cells2 _ _)
        rw [show sumN [(hiW (out * 10), loW (out * 10)), (0, (c.toNat : Int) - 48)] = out * 10 + ((c.toNat : Int) - 48) by simp only [sumN, num_hl]; unfold num; simp] at htot
        refine htot.mono ?_
        rintro e w4 ⟨hr4, hb4⟩
        have hv4 := (hv3.alloc _).later hb4
        rcases hr4.fits with ⟨hc4, rfl⟩ | ⟨hc4, rfl⟩
        case inr =>
          exact (⟨rfl, Reck.no (by have := HGE2.out; omega), hv4.2.2.2⟩ : Ovf w (valOf s.data.toList) w4)
        refine hK _ _ ?_
        clear hK K
        have r0 := hv4.2.1.cell 0
        have r1 := hv4.2.1.cell 1
        have f0 := hv4.2.1.frozen 0
        have f1 := hv4.2.1.frozen 1
        simp only [List.getElem?_toArray, List.getElem?_cons_zero, List.getElem?_cons_succ] at r0 r1
        refine wpAny_ready (rs := [9]) (by kernel_rfl) (by simp) ?_
        refine AllReady.cons rfl (fun K hK => ?_) AllReady.nil
        go_simp
        refine hK _ _ ?_
        clear hK K
        refine wpAny_done (by kernel_rfl) ?_ _
        go_wp2_with fail
        have hv5 := hv4.set (out * 10 + ((c.toNat : Int) - 48))
        go_roundw
        case rel => exact ⟨pos + 1, by omega, by rw [HS.out]; exact hc4, by rw [HS.out]; exact hv5⟩
        case measure =>
          rw [iterPos_of hv5.2.2.1, iterPos_of HIT.out]
          omega
    · have hnx : ∀ ty, (Instr.next (.pointer (some ⟨w.heap.size + 1 + 1, 0, none⟩)) true ty).run Try.prog wr = .ok (.tuple #[.bool false]) wr := fun ty => Lib.run_next_end_at wr _ s pos ty hvs.2.2.1 hlt
      have he : s.data.toList.take pos = s.data.toList := List.take_of_length_le (by simp; omega)
      rw [he] at hob hvs
      clear he
      obtain ⟨out, hout⟩ : ∃ out, out = valOf s.data.toList := ⟨_, rfl⟩
      rw [← hout] at hob hvs
      have HO := Lib.hid hout; clear hout
      obtain ⟨o0, o1, _⟩ := hvs.cells
      have r0 := hvs.1.cell 0
      have r1 := hvs.1.cell 1
      have f0 := hvs.1.frozen 0
      have f1 := hvs.1.frozen 1
      simp only [List.getElem?_toArray, List.getElem?_cons_zero, List.getElem?_cons_succ] at r0 r1
      go_wp2_with fail
      have B3 := (hvs.1.set 0 (.int .u64 (hiW out))).set 1 (.int .u64 (loW out))
      have C0 := B3.cell 0
      have C1 := B3.cell 1
      simp at C0 C1
      refine bodyPost_ret (v := WV (hiW out) (loW out)) (by simp [results, Try.results50, go_sem, C0, C1]) rfl ⟨?_, (hvs.2.2.2.setCell (by simp) _).setCell (by simp) _⟩
      rw [← HO.out]; exact Reck.ok hob
end Go.Proofs.Ytfknocgmobddmaa
