import Derived.Test.YtfknocgmobddmaaT8
namespace Go.Proofs.Ytfknocgmobddmaa
open Go.RowKit Go.Proofs.Kit Go.Shelf

theorem ent42 : ∀ args w, (callFunc 42 args).run Try.prog w = .ok (.enter 42 args) w := enters_of Try.func42 (by kernel_rfl) rfl

set_option maxHeartbeats 400000 in
theorem powerc_any (ba bb : Nat) (a b : Int) (n : Nat) (ha : Wd a) (hb : Wd b) (hn : n < 9223372036854775808) (w : World) (hba : Blk w ba #[.int .u64 a, .int .u64 b] 26) (hbb : Blk w bb #[.int .i64 n] 3) :
    Calls Try.prog 42 #[.pointer (some ⟨ba, 0, none⟩), .pointer (some ⟨bb, 0, none⟩)] w fun e w' => Reck (num (a, b) ^ n < Big) (num (a, b) ^ n) e ∧ Below w.heap.size w w' := by
  have c0 := hba.cell 0
  have c1 := hba.cell 1
  have d0 := hbb.cell 0
  have hlt := hba.lt
  have hlt2 := hbb.lt
  simp only [List.getElem?_toArray, List.getElem?_cons_zero, List.getElem?_cons_succ] at c0 c1 d0
  go_enter Try.func42, Try.ntmps42
  go_wp2_with fail
  refine (power_any a b n ha hb hn _).mono ?_
  rintro e w' ⟨hr, hb⟩
  have b0 : Blk w' w.heap.size #[.int .u64 0, .int .u64 0] 26 := (Blk.new _ _ _).later hb
  have hB : Below w.heap.size w w' := ((Below.refl _ _).alloc (Nat.le_refl _) _).trans (hb.mono (by simp))
  clear c0 c1 d0
  obtain ⟨m, hm⟩ : ∃ m, m = num (a, b) ^ n := ⟨_, rfl⟩
  rw [← hm] at hr
  have HN := Lib.hid hm; clear hm
  rcases hr.fits with ⟨hc, rfl⟩ | ⟨hc, rfl⟩
  · have r0 := b0.cell 0
    have r1 := b0.cell 1
    have f0 := b0.frozen 0
    have f1 := b0.frozen 1
    simp only [List.getElem?_toArray, List.getElem?_cons_zero, List.getElem?_cons_succ] at r0 r1
    go_wp2_with fail
    have B3 := (b0.set 0 (.int .u64 (hiW m))).set 1 (.int .u64 (loW m))
    have C0 := B3.cell 0
    have C1 := B3.cell 1
    simp at C0 C1
    exact bodyPost_ret (v := WV (hiW m) (loW m)) (by simp [results, Try.results42, go_sem, C0, C1]) rfl ⟨HN.out ▸ Reck.ok hc, (hB.setCell (by simp) _).setCell (by simp) _⟩
  · exact bodyPost_panic rfl ⟨HN.out ▸ Reck.no hc, hB⟩

set_option maxHeartbeats 400000 in
theorem powerf_neg (a b : Int) (n : Int) (hn : n < 0) (w : World) :
    Calls Try.prog 22 #[WV a b, .int .i64 n] w fun e w' => e = .returned (.tuple #[WV 0 0, .int .i64 2]) ∧ Below w.heap.size w w' := by
  go_enter Try.func22, Try.ntmps22
  go_wp2_with fail
  refine bodyPost_ret (v := .tuple #[WV 0 0, .int .i64 2]) (by simp [results, Try.results22, go_sem]) rfl ⟨rfl, ?_⟩
  exact (below2 w _ _).alloc (by simp; omega) _

set_option maxHeartbeats 400000 in
theorem powerf_any (a b : Int) (n : Nat) (ha : Wd a) (hb : Wd b) (hn : n < 9223372036854775808) (w : World) :
    Calls Try.prog 22 #[WV a b, .int .i64 n] w fun e w' => Chk (num (a, b) ^ n < Big) (num (a, b) ^ n) e ∧ Below w.heap.size w w' := by
  have hmf : ∀ (fn : Fn) (first cap : Array Value) (w : World), (Instr.makeFunc fn first cap).run Try.prog w = .ok (.func fn first cap) w := fun _ _ _ _ => rfl
  have h0 : decide ((n : Int) < 0) = false := by simp
  go_enter Try.func22, Try.ntmps22
  go_wp2_with fail
  refine (checked_any (num (a, b) ^ n < Big) (num (a, b) ^ n) 42 _ _ ent42 (by simpa [Nat.add_assoc] using powerc_any w.heap.size (w.heap.size + 1) a b n ha hb hn _ (((((Blk.new _ _ _).alloc _).alloc _).alloc _).alloc _) ((((blk_at _ _ _ (by simp)).alloc _).alloc _).alloc _))).mono ?_
  rintro e w' ⟨hr, hbl⟩
  have b0 : Blk w' (w.heap.size + 1 + 1) #[.int .u64 0, .int .u64 0] 26 := Blk.later (blk_at _ _ _ (by simp)) hbl
  have hB : Below w.heap.size w w' := (((Below.refl _ _).alloc (Nat.le_refl _) _).alloc (by simp) _).alloc (by simp; omega) _ |>.trans (hbl.mono (by simp; omega))
  obtain ⟨m, hm⟩ : ∃ m, m = num (a, b) ^ n := ⟨_, rfl⟩
  rw [← hm] at hr
  have HN := Lib.hid hm; clear hm
  have r0 := b0.cell 0
  have r1 := b0.cell 1
  have f0 := b0.frozen 0
  have f1 := b0.frozen 1
  simp only [List.getElem?_toArray, List.getElem?_cons_zero, List.getElem?_cons_succ] at r0 r1
  rcases hr.fits with ⟨hcc, rfl⟩ | ⟨hcc, rfl⟩
  · go_wp2_with fail
    have B3 := (b0.set 0 (.int .u64 (hiW m))).set 1 (.int .u64 (loW m))
    have C0 := B3.cell 0
    have C1 := B3.cell 1
    simp at C0 C1
    exact bodyPost_ret (v := .tuple #[WV (hiW m) (loW m), .int .i64 0]) (by simp [results, Try.results22, go_sem, C0, C1]) rfl ⟨HN.out ▸ Chk.ok hcc, (hB.setCell (by simp; omega) _).setCell (by simp; omega) _⟩
  · go_wp2_with fail
    have B3 := (b0.set 0 (.int .u64 0)).set 1 (.int .u64 0)
    have C0 := B3.cell 0
    have C1 := B3.cell 1
    simp at C0 C1
    exact bodyPost_ret (v := .tuple #[WV 0 0, .int .i64 110]) (by simp [results, Try.results22, go_sem, C0, C1]) rfl ⟨HN.out ▸ Chk.no (by omega), (hB.setCell (by simp; omega) _).setCell (by simp; omega) _⟩
end Go.Proofs.Ytfknocgmobddmaa
