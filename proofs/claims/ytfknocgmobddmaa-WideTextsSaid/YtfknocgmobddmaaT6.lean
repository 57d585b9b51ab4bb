import Derived.Test.YtfknocgmobddmaaT5
import Derived.Shelf.Abstract
namespace Go.Proofs.Ytfknocgmobddmaa
open Go.RowKit Go.Proofs.Kit Go.Shelf

theorem Chk.fits {c : Prop} {S : Int} {e : Ending} (h : Chk c S e) : (c ∧ e = .returned (.tuple #[WV (hiW S) (loW S), .int .i64 0])) ∨ (¬ c ∧ e = .returned (.tuple #[WV 0 0, .int .i64 110])) := by
  by_cases hc : c
  · exact .inl ⟨hc, h.1 hc⟩
  · exact .inr ⟨hc, h.2 hc⟩
theorem Chk.ok {c : Prop} {S : Int} (h : c) : Chk c S (.returned (.tuple #[WV (hiW S) (loW S), .int .i64 0])) := ⟨fun _ => rfl, fun n => absurd h n⟩
theorem Chk.no {c : Prop} {S : Int} (h : ¬ c) : Chk c S (.returned (.tuple #[WV 0 0, .int .i64 110])) := ⟨fun n => absurd n h, fun _ => rfl⟩
theorem ent45 : ∀ args w, (callFunc 45 args).run Try.prog w = .ok (.enter 45 args) w := enters_of Try.func45 (by kernel_rfl) rfl
theorem ent34 : ∀ args w, (callFunc 34 args).run Try.prog w = .ok (.enter 34 args) w := enters_of Try.func34 (by kernel_rfl) rfl
theorem ent36 : ∀ args w, (callFunc 36 args).run Try.prog w = .ok (.enter 36 args) w := enters_of Try.func36 (by kernel_rfl) rfl

/-- Two new blocks. -/
theorem below2 (w : World) (o1 o2 : Obj) : Below w.heap.size w ((w.alloc o1).alloc o2) := ((Below.refl _ _).alloc (Nat.le_refl _) _).alloc (by simp) _

theorem Wides.slice {w : World} {v : Value} {l : List (Int × Int)} (h : Wides w v l) : ∃ a n c, v = .slice a n c := by
  obtain ⟨_, _, ⟨rfl, _⟩ | ⟨b, off, cap, rfl, _⟩⟩ := h
  · exact ⟨_, _, _, rfl⟩
  · exact ⟨_, _, _, rfl⟩

theorem blk_at {w : World} (vs : Array Value) (t : TypeId) (b : Nat) (h : b = w.heap.size) : Blk (w.alloc (.cells vs t)) b vs t := by
  subst h; exact Blk.new _ _ _

set_option maxHeartbeats 400000 in
theorem sum_any (v : Value) (l : List (Int × Int)) (w : World) (h : Wides w v l) :
    Calls Try.prog 24 #[v] w fun e w' => Chk (sumN l < Big) (sumN l) e ∧ Below w.heap.size w w' := by
  have hmf : ∀ (fn : Fn) (first cap : Array Value) (w : World), (Instr.makeFunc fn first cap).run Try.prog w = .ok (.func fn first cap) w := fun _ _ _ _ => rfl
  obtain ⟨a, m, c, rfl⟩ := h.slice
  have HW := Lib.hid h; clear h
  go_enter Try.func24, Try.ntmps24
  go_wp2_with fail
  refine (checked_any (sumN l < Big) (sumN l) 45 _ _ ent45 (by simpa [Nat.add_assoc] using sumc_any w.heap.size _ l _ ((((Blk.new _ _ _).alloc _).alloc _).alloc _) (HW.out.later ((below2 w _ _).trans ((below2 _ _ _).mono (by simp; omega)))))).mono ?_
  rintro e w' ⟨hr, hb⟩
  have b0 : Blk w' (w.heap.size + 1) #[.int .u64 0, .int .u64 0] 26 := Blk.later (by simpa using Blk.new (w.alloc (.cells #[.slice a m c] 38)) #[.int .u64 0, .int .u64 0] 26) hb
  have hB : Below w.heap.size w w' := (below2 w _ _).trans (hb.mono (by simp; omega))
  obtain ⟨n, hn⟩ : ∃ n, n = sumN l := ⟨_, rfl⟩
  rw [← hn] at hr
  have HN := Lib.hid hn; clear hn
  have r0 := b0.cell 0
  have r1 := b0.cell 1
  have f0 := b0.frozen 0
  have f1 := b0.frozen 1
  simp only [List.getElem?_toArray, List.getElem?_cons_zero, List.getElem?_cons_succ] at r0 r1
  rcases hr.fits with ⟨hc, rfl⟩ | ⟨hc, rfl⟩
  · go_wp2_with fail
    have B3 := (b0.set 0 (.int .u64 (hiW n))).set 1 (.int .u64 (loW n))
    have C0 := B3.cell 0
    have C1 := B3.cell 1
    simp at C0 C1
    exact bodyPost_ret (v := .tuple #[WV (hiW n) (loW n), .int .i64 0]) (by simp [results, Try.results24, go_sem, C0, C1]) rfl ⟨HN.out ▸ Chk.ok hc, (hB.setCell (by simp) _).setCell (by simp) _⟩
  · go_wp2_with fail
    have B3 := (b0.set 0 (.int .u64 0)).set 1 (.int .u64 0)
    have C0 := B3.cell 0
    have C1 := B3.cell 1
    simp at C0 C1
    exact bodyPost_ret (v := .tuple #[WV 0 0, .int .i64 110]) (by simp [results, Try.results24, go_sem, C0, C1]) rfl ⟨HN.out ▸ Chk.no (by omega), (hB.setCell (by simp) _).setCell (by simp) _⟩

set_option maxHeartbeats 400000 in
theorem sub_any (a b c d : Int) (ha : Wd a) (hb : Wd b) (hc : Wd c) (hd : Wd d) (w : World) :
    Calls Try.prog 13 #[WV a b, WV c d] w fun e w' => Chk (num (c, d) ≤ num (a, b)) (num (a, b) - num (c, d)) e ∧ Below w.heap.size w w' := by
  have hmf : ∀ (fn : Fn) (first cap : Array Value) (w : World), (Instr.makeFunc fn first cap).run Try.prog w = .ok (.func fn first cap) w := fun _ _ _ _ => rfl
  go_enter Try.func13, Try.ntmps13
  go_wp2_with fail
  refine (checked_any (num (c, d) ≤ num (a, b)) (num (a, b) - num (c, d)) 34 _ _ ent34 (by simpa [Nat.add_assoc] using subc_any w.heap.size (w.heap.size + 1) a b c d ha hb hc hd _ (((((Blk.new _ _ _).alloc _).alloc _).alloc _).alloc _) ((((blk_at _ _ _ (by simp)).alloc _).alloc _).alloc _))).mono ?_
  rintro e w' ⟨hr, hbl⟩
  have b0 : Blk w' (w.heap.size + 1 + 1) #[.int .u64 0, .int .u64 0] 26 := Blk.later (blk_at _ _ _ (by simp)) hbl
  have hB : Below w.heap.size w w' := (((Below.refl _ _).alloc (Nat.le_refl _) _).alloc (by simp) _).alloc (by simp; omega) _ |>.trans (hbl.mono (by simp; omega))
  obtain ⟨n, hn⟩ : ∃ n, n = num (a, b) - num (c, d) := ⟨_, rfl⟩
  rw [← hn] at hr
  have HN := Lib.hid hn; clear hn
  have r0 := b0.cell 0
  have r1 := b0.cell 1
  have f0 := b0.frozen 0
  have f1 := b0.frozen 1
  simp only [List.getElem?_toArray, List.getElem?_cons_zero, List.getElem?_cons_succ] at r0 r1
  rcases hr.fits with ⟨hcc, rfl⟩ | ⟨hcc, rfl⟩
  · go_wp2_with fail
    have B3 := (b0.set 0 (.int .u64 (hiW n))).set 1 (.int .u64 (loW n))
    have C0 := B3.cell 0
    have C1 := B3.cell 1
    simp at C0 C1
    exact bodyPost_ret (v := .tuple #[WV (hiW n) (loW n), .int .i64 0]) (by simp [results, Try.results13, go_sem, C0, C1]) rfl ⟨HN.out ▸ Chk.ok hcc, (hB.setCell (by simp; omega) _).setCell (by simp; omega) _⟩
  · go_wp2_with fail
    have B3 := (b0.set 0 (.int .u64 0)).set 1 (.int .u64 0)
    have C0 := B3.cell 0
    have C1 := B3.cell 1
    simp at C0 C1
    exact bodyPost_ret (v := .tuple #[WV 0 0, .int .i64 110]) (by simp [results, Try.results13, go_sem, C0, C1]) rfl ⟨HN.out ▸ Chk.no (by omega), (hB.setCell (by simp; omega) _).setCell (by simp; omega) _⟩

set_option maxHeartbeats 400000 in
theorem mul_any (a b c d : Int) (ha : Wd a) (hb : Wd b) (hc : Wd c) (hd : Wd d) (w : World) :
    Calls Try.prog 14 #[WV a b, WV c d] w fun e w' => Chk (num (a, b) * num (c, d) < Big) (num (a, b) * num (c, d)) e ∧ Below w.heap.size w w' := by
  have hmf : ∀ (fn : Fn) (first cap : Array Value) (w : World), (Instr.makeFunc fn first cap).run Try.prog w = .ok (.func fn first cap) w := fun _ _ _ _ => rfl
  go_enter Try.func14, Try.ntmps14
  go_wp2_with fail
  refine (checked_any (num (a, b) * num (c, d) < Big) (num (a, b) * num (c, d)) 36 _ _ ent36 (by simpa [Nat.add_assoc] using mulc_any w.heap.size (w.heap.size + 1) a b c d ha hb hc hd _ (((((Blk.new _ _ _).alloc _).alloc _).alloc _).alloc _) ((((blk_at _ _ _ (by simp)).alloc _).alloc _).alloc _))).mono ?_
  rintro e w' ⟨hr, hbl⟩
  have b0 : Blk w' (w.heap.size + 1 + 1) #[.int .u64 0, .int .u64 0] 26 := Blk.later (blk_at _ _ _ (by simp)) hbl
  have hB : Below w.heap.size w w' := (((Below.refl _ _).alloc (Nat.le_refl _) _).alloc (by simp) _).alloc (by simp; omega) _ |>.trans (hbl.mono (by simp; omega))
  obtain ⟨n, hn⟩ : ∃ n, n = num (a, b) * num (c, d) := ⟨_, rfl⟩
  rw [← hn] at hr
  have HN := Lib.hid hn; clear hn
  have r0 := b0.cell 0
  have r1 := b0.cell 1
  have f0 := b0.frozen 0
  have f1 := b0.frozen 1
  simp only [List.getElem?_toArray, List.getElem?_cons_zero, List.getElem?_cons_succ] at r0 r1
  rcases hr.fits with ⟨hcc, rfl⟩ | ⟨hcc, rfl⟩
  · go_wp2_with fail
    have B3 := (b0.set 0 (.int .u64 (hiW n))).set 1 (.int .u64 (loW n))
    have C0 := B3.cell 0
    have C1 := B3.cell 1
    simp at C0 C1
    exact bodyPost_ret (v := .tuple #[WV (hiW n) (loW n), .int .i64 0]) (by simp [results, Try.results14, go_sem, C0, C1]) rfl ⟨HN.out ▸ Chk.ok hcc, (hB.setCell (by simp; omega) _).setCell (by simp; omega) _⟩
  · go_wp2_with fail
    have B3 := (b0.set 0 (.int .u64 0)).set 1 (.int .u64 0)
    have C0 := B3.cell 0
    have C1 := B3.cell 1
    simp at C0 C1
    exact bodyPost_ret (v := .tuple #[WV 0 0, .int .i64 110]) (by simp [results, Try.results14, go_sem, C0, C1]) rfl ⟨HN.out ▸ Chk.no (by omega), (hB.setCell (by simp; omega) _).setCell (by simp; omega) _⟩


set_option maxHeartbeats 400000 in
theorem add_any (a b c d : Int) (ha : Wd a) (hb : Wd b) (hc : Wd c) (hd : Wd d) (w : World) :
    Calls Try.prog 12 #[WV a b, WV c d] w fun e w' => Chk (num (a, b) + num (c, d) < Big) (num (a, b) + num (c, d)) e ∧ Below w.heap.size w w' := by
  go_enter Try.func12, Try.ntmps12
  go_wp2_with fail
  have hs := sum_any (.slice (some ⟨w.heap.size + 1 + 1 + 1, 0, none⟩) 2 2) [(a, b), (c, d)] ((((w.alloc (.cells #[.int .u64 a, .int .u64 b] 26)).alloc (.cells #[.int .u64 c, .int .u64 d] 26)).alloc (.cells #[.int .u64 0, .int .u64 0] 26)).alloc (.cells #[.int .u64 a, .int .u64 b, .int .u64 c, .int .u64 d] 26)) (Wides.of_blk (blk_at _ _ _ (by simp)) rfl (by decide) (wp2 ⟨ha, hb⟩ ⟨hc, hd⟩) (cells2 _ _))
  have e : sumN [(a, b), (c, d)] = num (a, b) + num (c, d) := by simp [sumN]
  rw [e] at hs
  refine hs.mono ?_
  rintro e w' ⟨hr, hbl⟩
  have b0 : Blk w' (w.heap.size + 1 + 1) #[.int .u64 0, .int .u64 0] 26 := Blk.later ((blk_at _ _ _ (by simp)).alloc _) hbl
  have hB : Below w.heap.size w w' := ((((Below.refl _ _).alloc (Nat.le_refl _) _).alloc (by simp) _).alloc (by simp; omega) _).alloc (by simp; omega) _ |>.trans (hbl.mono (by simp; omega))
  obtain ⟨n, hn⟩ : ∃ n, n = num (a, b) + num (c, d) := ⟨_, rfl⟩
  rw [← hn] at hr
  have HN := Lib.hid hn; clear hn
  have r0 := b0.cell 0
  have r1 := b0.cell 1
  have f0 := b0.frozen 0
  have f1 := b0.frozen 1
  simp only [List.getElem?_toArray, List.getElem?_cons_zero, List.getElem?_cons_succ] at r0 r1
  rcases hr.fits with ⟨hcc, rfl⟩ | ⟨hcc, rfl⟩
  · go_wp2_with fail
    have B3 := (b0.set 0 (.int .u64 (hiW n))).set 1 (.int .u64 (loW n))
    have C0 := B3.cell 0
    have C1 := B3.cell 1
    simp at C0 C1
    exact bodyPost_ret (v := .tuple #[WV (hiW n) (loW n), .int .i64 0]) (by simp [results, Try.results12, go_sem, C0, C1]) rfl ⟨HN.out ▸ Chk.ok hcc, (hB.setCell (by simp; omega) _).setCell (by simp; omega) _⟩
  · go_wp2_with fail
    have B3 := (b0.set 0 (.int .u64 0)).set 1 (.int .u64 0)
    have C0 := B3.cell 0
    have C1 := B3.cell 1
    simp at C0 C1
    exact bodyPost_ret (v := .tuple #[WV 0 0, .int .i64 110]) (by simp [results, Try.results12, go_sem, C0, C1]) rfl ⟨HN.out ▸ Chk.no (by omega), (hB.setCell (by simp; omega) _).setCell (by simp; omega) _⟩

end Go.Proofs.Ytfknocgmobddmaa
