import Derived.Test.YtfknocgmobddmaaR3
namespace Go.Proofs.Ytfknocgmobddmaa
open Go.RowKit Go.Proofs.Kit Go.Shelf

theorem ent49 : ∀ args w, (callFunc 49 args).run Try.prog w = .ok (.enter 49 args) w := enters_of Try.func49 (by kernel_rfl) rfl

set_option maxHeartbeats 400000 in
theorem readc_any (bx : Nat) (s : ByteArray) (w : World) (hs : s.size ≤ 1000000) (hd : s.data.toList.all isDig = true) (hbx : Blk w bx #[.string s] 9) :
    Calls Try.prog 49 #[.pointer (some ⟨bx, 0, none⟩)] w fun e w' => Reck (valOf s.data.toList < Big) (valOf s.data.toList) e ∧ Below w.heap.size w w' := by
  have c0 := hbx.cell 0
  have hlt := hbx.lt
  simp only [List.getElem?_toArray, List.getElem?_cons_zero] at c0
  have HD := Lib.hid hd; clear hd
  obtain ⟨n, hn⟩ : ∃ n, n = valOf s.data.toList := ⟨_, rfl⟩
  rw [← hn]
  have HN := Lib.hid hn; clear hn
  go_enter Try.func49, Try.ntmps49
  go_wp2_with fail
  refine (value_any s _ hs HD.out).mono ?_
  rintro e w' ⟨hr, hb⟩
  rw [← HN.out] at hr
  have b0 : Blk w' w.heap.size #[.int .u64 0, .int .u64 0] 26 := (Blk.new _ _ _).later hb
  have hB : Below w.heap.size w w' := ((Below.refl _ _).alloc (Nat.le_refl _) _).trans (hb.mono (by simp))
  rcases hr.fits with ⟨hc, rfl⟩ | ⟨hc, rfl⟩
  · have r0 := b0.cell 0
    have r1 := b0.cell 1
    have f0 := b0.frozen 0
    have f1 := b0.frozen 1
    simp only [List.getElem?_toArray, List.getElem?_cons_zero, List.getElem?_cons_succ] at r0 r1
    go_wp2_with fail
    have B3 := (b0.set 0 (.int .u64 (hiW n))).set 1 (.int .u64 (loW n))
    have C0 := B3.cell 0
    have C1 := B3.cell 1
    simp at C0 C1
    exact bodyPost_ret (v := WV (hiW n) (loW n)) (by simp [results, Try.results49, go_sem, C0, C1]) rfl ⟨Reck.ok hc, (hB.setCell (by simp) _).setCell (by simp) _⟩
  · exact bodyPost_panic rfl ⟨Reck.no hc, hB⟩

set_option maxHeartbeats 400000 in
theorem read_no (s : ByteArray) (w : World) (hs : s.size ≤ 1000000) (ht : isTextB s.data.toList = false) :
    Calls Try.prog 27 #[.string s] w fun e w' => e = .returned (.tuple #[WV 0 0, .int .i64 2]) ∧ Below w.heap.size w w' := by
  have HT := Lib.hid ht; clear ht
  go_enter Try.func27, Try.ntmps27
  go_wp2_with fail
  refine (isText_any s _ hs).mono ?_
  rintro e w1 ⟨rfl, h1⟩
  rw [HT.out]
  have b0 : Blk w1 (w.heap.size + 1) #[.int .u64 0, .int .u64 0] 26 := (blk_at _ _ _ (by simp)).later h1
  have B1 : Below w.heap.size w w1 := (below2 w _ _).trans (h1.mono (by simp; omega))
  have r0 := b0.cell 0
  have r1 := b0.cell 1
  have f0 := b0.frozen 0
  have f1 := b0.frozen 1
  simp only [List.getElem?_toArray, List.getElem?_cons_zero, List.getElem?_cons_succ] at r0 r1
  go_wp2_with fail
  have B3 := (b0.set 0 (.int .u64 0)).set 1 (.int .u64 0)
  have C0 := B3.cell 0
  have C1 := B3.cell 1
  simp at C0 C1
  exact bodyPost_ret (v := .tuple #[WV 0 0, .int .i64 2]) (by simp [results, Try.results27, go_sem, C0, C1]) rfl ⟨rfl, (B1.setCell (by simp) _).setCell (by simp) _⟩

set_option maxHeartbeats 400000 in
theorem read_yes (s : ByteArray) (w : World) (hs : s.size ≤ 1000000) (ht : isTextB s.data.toList = true) :
    Calls Try.prog 27 #[.string s] w fun e w' => Chk (valOf s.data.toList < Big) (valOf s.data.toList) e ∧ Below w.heap.size w w' := by
  have hd : s.data.toList.all isDig = true := by unfold isTextB at ht; simp only [Bool.and_eq_true] at ht; exact ht.2
  have HT := Lib.hid ht; clear ht
  have HD := Lib.hid hd; clear hd
  obtain ⟨n, hn⟩ : ∃ n, n = valOf s.data.toList := ⟨_, rfl⟩
  rw [← hn]
  have HN := Lib.hid hn; clear hn
  have hmf : ∀ (fn : Fn) (first cap : Array Value) (w : World), (Instr.makeFunc fn first cap).run Try.prog w = .ok (.func fn first cap) w := fun _ _ _ _ => rfl
  go_enter Try.func27, Try.ntmps27
  go_wp2_with fail
  refine (isText_any s _ hs).mono ?_
  rintro e w1 ⟨rfl, h1⟩
  rw [HT.out]
  have bx : Blk w1 w.heap.size #[.string s] 9 := ((Blk.new _ _ _).alloc _).later h1
  have b0 : Blk w1 (w.heap.size + 1) #[.int .u64 0, .int .u64 0] 26 := (blk_at _ _ _ (by simp)).later h1
  have B1 : Below w.heap.size w w1 := (below2 w _ _).trans (h1.mono (by simp; omega))
  go_wp2_with fail
  have hcl := readc_any w.heap.size s ((w1.alloc (.cells #[.int .u64 0, .int .u64 0] 26)).alloc (.cells #[.int .i64 0] 31)) hs HD.out ((bx.alloc _).alloc _)
  rw [← HN.out] at hcl
  refine (checked_any (n < Big) n 49 _ _ ent49 (by simpa [Nat.add_assoc] using hcl)).mono ?_
  rintro e w2 ⟨hr, h2⟩
  have b0 := b0.later h2
  have B2 := below_later B1 h2
  have r0 := b0.cell 0
  have r1 := b0.cell 1
  have f0 := b0.frozen 0
  have f1 := b0.frozen 1
  simp only [List.getElem?_toArray, List.getElem?_cons_zero, List.getElem?_cons_succ] at r0 r1
  rcases hr.fits with ⟨hc, rfl⟩ | ⟨hc, rfl⟩
  · go_wp2_with fail
    have B3 := (b0.set 0 (.int .u64 (hiW n))).set 1 (.int .u64 (loW n))
    have C0 := B3.cell 0
    have C1 := B3.cell 1
    simp at C0 C1
    exact bodyPost_ret (v := .tuple #[WV (hiW n) (loW n), .int .i64 0]) (by simp [results, Try.results27, go_sem, C0, C1]) rfl ⟨Chk.ok hc, (B2.setCell (by simp) _).setCell (by simp) _⟩
  · go_wp2_with fail
    have B3 := (b0.set 0 (.int .u64 0)).set 1 (.int .u64 0)
    have C0 := B3.cell 0
    have C1 := B3.cell 1
    simp at C0 C1
    exact bodyPost_ret (v := .tuple #[WV 0 0, .int .i64 110]) (by simp [results, Try.results27, go_sem, C0, C1]) rfl ⟨Chk.no (by omega), (B2.setCell (by simp) _).setCell (by simp) _⟩

/-- Read of Text is the number. -/
theorem read_text (N : Nat) (hN : (N : Int) < Big) (w : World) :
    Calls Try.prog 27 #[.string ⟨(textOf N).toArray⟩] w fun e w' => e = .returned (.tuple #[WV (hiW N) (loW N), .int .i64 0]) ∧ Below w.heap.size w w' := by
  have hlen : (textOf N).length ≤ 39 := by unfold textOf txt; simp; exact digs_length 38 N (by unfold Big at hN; omega)
  refine (read_yes ⟨(textOf N).toArray⟩ w (by show (textOf N).toArray.size ≤ _; simp; omega) (textOf_is N)).mono ?_
  rintro e w' ⟨h, hb⟩
  have e1 : valOf (⟨(textOf N).toArray⟩ : ByteArray).data.toList = N := textOf_val N
  rw [e1] at h
  exact ⟨h.1 hN, hb⟩

set_option maxRecDepth 100000 in
set_option maxHeartbeats 1000000 in
theorem readlaw_go (N : Nat) (hN : (N : Int) < Big) (s : ByteArray) (hs : s.size ≤ maxLen) (w : World) :
    Calls Try.prog 7 #[WV (hiW N) (loW N), .string s] w fun e w' => e = .returned (.bool true) ∧ Below w.heap.size w w' := by
  unfold maxLen at hs
  go_enter Try.func7, Try.ntmps7
  go_wp2_with fail
  refine (wakes_true _).mono ?_
  rintro e w1 ⟨rfl, h1⟩
  have bA : Blk w1 w.heap.size #[.int .u64 (hiW N), .int .u64 (loW N)] 26 := (Blk.new _ _ _).later h1
  have B1 : Below w.heap.size w w1 := ((Below.refl _ _).alloc (Nat.le_refl _) _).trans (h1.mono (by simp))
  obtain ⟨cA0, cA1, lA⟩ := bA.two
  go_wp2_with fail
  refine (text_any N hN _).mono ?_
  rintro e w2 ⟨rfl, h2⟩
  go_wp2_with fail
  refine (read_text N hN _).mono ?_
  rintro e w3 ⟨rfl, h3⟩
  have bA := (bA.later h2).later h3
  have B3 := below_later (below_later B1 h2) h3
  clear cA0 cA1 lA h1 h2 h3 B1
  obtain ⟨cA0, cA1, lA⟩ := bA.two
  have hne : ∀ w, (binOp .neq 26 (.agg #[.int .u64 (hiW N), .int .u64 (loW N)]) (.agg #[.int .u64 (hiW N), .int .u64 (loW N)])).run Try.prog w = .ok (.bool false) w := fun w => by rw [neq_wide]; simp [sameW]
  go_wp2_with fail
  obtain ⟨t, ht⟩ : ∃ t, t = s.extract 0 (min (s.size : Int) 60).toNat := ⟨_, rfl⟩
  have htl : t.size ≤ 60 := by rw [ht, ByteArray.size_extract]; omega
  rw [← ht]
  clear ht
  by_cases hT : isTextB t.data.toList = true
  · refine (read_yes t _ (by omega) hT).mono ?_
    rintro e w4 ⟨hr, h4⟩
    have B4 := below_al B3 h4
    clear B3 h4 bA cA0 cA1 lA
    have hback := text_val _ t.data.toList rfl hT
    have hpos : 0 ≤ valOf t.data.toList := valOf_pos (by unfold isTextB at hT; simp only [Bool.and_eq_true] at hT; exact hT.2)
    obtain ⟨m, hm⟩ := Int.eq_ofNat_of_zero_le hpos
    rw [hm] at hr hback
    simp only [Int.toNat_natCast] at hback
    have hst : (⟨(textOf m).toArray⟩ : ByteArray) = t := by rw [hback]
    clear hm hback hpos hT
    rcases hr.fits with ⟨hc, rfl⟩ | ⟨hc, rfl⟩
    · have HST := Lib.hid hst; clear hst hr
      go_wp2_with fail
      refine (text_any m hc _).mono ?_
      rintro e w5 ⟨rfl, h5⟩
      rw [HST.out]
      have B5 := below_al B4 h5
      go_wp2_with fail
      go_ret
      exact ⟨rfl, B5⟩
    · clear hst hr
      go_wp2_with fail
      go_ret
      exact ⟨rfl, B4.alloc B4.size _⟩
  · refine (read_no t _ (by omega) (by simpa using hT)).mono ?_
    rintro e w4 ⟨rfl, h4⟩
    have B4 := below_al B3 h4
    clear B3 h4 bA cA0 cA1 lA hT
    go_wp2_with fail
    go_ret
    exact ⟨rfl, B4.alloc B4.size _⟩

theorem readlaw_true (a b : Int) (ha : Wd a) (hb : Wd b) (s : ByteArray) (hs : s.size ≤ maxLen) (w : World) :
    Calls Try.prog 7 #[WV a b, .string s] w fun e w' => e = .returned (.bool true) ∧ Below w.heap.size w w' := by
  have hn := num_pos (p := (a, b)) ⟨ha, hb⟩
  obtain ⟨N, hN⟩ := Int.eq_ofNat_of_zero_le hn.1
  have := readlaw_go N (by rw [← hN]; exact hn.2) s hs w
  rw [← hN, hiW_num ⟨ha, hb⟩, loW_num ⟨ha, hb⟩] at this
  exact this
end Go.Proofs.Ytfknocgmobddmaa
