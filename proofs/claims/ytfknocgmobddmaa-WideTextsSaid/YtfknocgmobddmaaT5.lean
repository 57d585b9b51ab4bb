import Derived.Test.YtfknocgmobddmaaT4
namespace Go.Proofs.Ytfknocgmobddmaa
open Go.RowKit Go.Proofs.Kit

/-- In the world w the value v is a slice of these numbers. -/
def Wides (w : World) (v : Value) (l : List (Int × Int)) : Prop :=
  (∀ p ∈ l, Wp p) ∧ l.length ≤ 1000000 ∧ ((v = .slice none 0 0 ∧ l = []) ∨ ∃ b off cap, v = .slice (some ⟨b, off, none⟩) l.length cap ∧ b < w.heap.size ∧
    ∀ k (h : k < l.length), w.cell? ⟨b, off + k * 2, none⟩ = some (.int .u64 l[k].1) ∧ w.cell? ⟨b, off + k * 2 + 1, none⟩ = some (.int .u64 l[k].2))
theorem Wides.later {w w' : World} {v : Value} {l : List (Int × Int)} (h : Wides w v l) (hb : Below w.heap.size w w') : Wides w' v l := by
  obtain ⟨h1, h2, h3⟩ := h
  refine ⟨h1, h2, ?_⟩
  rcases h3 with h3 | ⟨b, off, cap, rfl, hlt, hc⟩
  · exact .inl h3
  · exact .inr ⟨b, off, cap, rfl, Nat.lt_of_lt_of_le hlt hb.size, fun k h => ⟨(hb.cell (p := ⟨b, _, none⟩) hlt).trans (hc k h).1, (hb.cell (p := ⟨b, _, none⟩) hlt).trans (hc k h).2⟩⟩
theorem Wides.of_blk {w : World} {b : Nat} {vs : Array Value} {l : List (Int × Int)} {len cap : Nat} (hb : Blk w b vs 26) (hl : l.length = len) (hlen : len ≤ 1000000) (hw : ∀ p ∈ l, Wp p)
    (hv : ∀ k (h : k < l.length), vs[k * 2]? = some (.int .u64 l[k].1) ∧ vs[k * 2 + 1]? = some (.int .u64 l[k].2)) : Wides w (.slice (some ⟨b, 0, none⟩) len cap) l :=
  ⟨hw, by omega, .inr ⟨b, 0, cap, by rw [hl], hb.lt, fun k h => ⟨by rw [hb.cell]; simpa using (hv k h).1, by rw [hb.cell]; simpa using (hv k h).2⟩⟩⟩
theorem total_wides (v : Value) (l : List (Int × Int)) (w : World) (h : Wides w v l) :
    Calls Try.prog 46 #[v] w fun e w' => Reck (sumN l < Big) (sumN l) e ∧ Below w.heap.size w w' := by
  obtain ⟨h1, h2, h3⟩ := h
  rcases h3 with ⟨rfl, rfl⟩ | ⟨b, off, cap, rfl, hlt, hc⟩
  · exact total_nil w
  · exact total_any b off l.length cap l w h2 rfl hlt h1 hc

/-- How a closure that reckons is left: what its callee said is its own. -/
theorem Reck.fits {c : Prop} {S : Int} {e : Ending} (h : Reck c S e) : (c ∧ e = .returned (WV (hiW S) (loW S))) ∨ (¬ c ∧ e = ovf) := by
  by_cases hc : c
  · exact .inl ⟨hc, h.1 hc⟩
  · exact .inr ⟨hc, h.2 hc⟩

set_option maxHeartbeats 400000 in
theorem sumc_any (bx : Nat) (v : Value) (l : List (Int × Int)) (w : World) (hbx : Blk w bx #[v] 38) (h : Wides w v l) :
    Calls Try.prog 45 #[.pointer (some ⟨bx, 0, none⟩)] w fun e w' => Reck (sumN l < Big) (sumN l) e ∧ Below w.heap.size w w' := by
  have c0 := hbx.cell 0
  have hlt := hbx.lt
  simp only [List.getElem?_toArray, List.getElem?_cons_zero] at c0
  go_enter Try.func45, Try.ntmps45
  go_wp2_with fail
  refine (total_wides v l _ (h.later ((Below.refl _ _).alloc (Nat.le_refl _) _))).mono ?_
  rintro e w' ⟨hr, hb⟩
  have b0 : Blk w' w.heap.size #[.int .u64 0, .int .u64 0] 26 := (Blk.new _ _ _).later hb
  have hB : Below w.heap.size w w' := ((Below.refl _ _).alloc (Nat.le_refl _) _).trans (hb.mono (by simp))
  rcases hr.fits with ⟨hc, rfl⟩ | ⟨hc, rfl⟩
  · have r0 := b0.cell 0
    have r1 := b0.cell 1
    have f0 := b0.frozen 0
    have f1 := b0.frozen 1
    simp only [List.getElem?_toArray, List.getElem?_cons_zero, List.getElem?_cons_succ] at r0 r1
    go_wp2_with fail
    have B3 := (b0.set 0 (.int .u64 (hiW (sumN l)))).set 1 (.int .u64 (loW (sumN l)))
    have C0 := B3.cell 0
    have C1 := B3.cell 1
    simp at C0 C1
    exact bodyPost_ret (v := WV (hiW (sumN l)) (loW (sumN l))) (by simp [results, Try.results45, go_sem, C0, C1]) rfl ⟨Reck.ok hc, (hB.setCell (by simp) _).setCell (by simp) _⟩
  · exact bodyPost_panic rfl ⟨Reck.no hc, hB⟩

set_option maxHeartbeats 400000 in
theorem subc_any (ba bb : Nat) (a b c d : Int) (ha : Wd a) (hb : Wd b) (hc : Wd c) (hd : Wd d) (w : World) (hba : Blk w ba #[.int .u64 a, .int .u64 b] 26) (hbb : Blk w bb #[.int .u64 c, .int .u64 d] 26) :
    Calls Try.prog 34 #[.pointer (some ⟨ba, 0, none⟩), .pointer (some ⟨bb, 0, none⟩)] w fun e w' => Reck (num (c, d) ≤ num (a, b)) (num (a, b) - num (c, d)) e ∧ Below w.heap.size w w' := by
  have c0 := hba.cell 0
  have c1 := hba.cell 1
  have d0 := hbb.cell 0
  have d1 := hbb.cell 1
  have hlt := hba.lt
  have hlt2 := hbb.lt
  simp only [List.getElem?_toArray, List.getElem?_cons_zero, List.getElem?_cons_succ] at c0 c1 d0 d1
  go_enter Try.func34, Try.ntmps34
  go_wp2_with fail
  refine (diff_any a b c d ha hb hc hd _).mono ?_
  rintro e w' ⟨hr, hb⟩
  have b0 : Blk w' w.heap.size #[.int .u64 0, .int .u64 0] 26 := (Blk.new _ _ _).later hb
  have hB : Below w.heap.size w w' := ((Below.refl _ _).alloc (Nat.le_refl _) _).trans (hb.mono (by simp))
  clear c0 c1 d0 d1
  obtain ⟨n, hn⟩ : ∃ n, n = num (a, b) - num (c, d) := ⟨_, rfl⟩
  rw [← hn] at hr
  have HN := Lib.hid hn; clear hn
  rcases hr.fits with ⟨hc, rfl⟩ | ⟨hc, rfl⟩
  · have r0 := b0.cell 0
    have r1 := b0.cell 1
    have f0 := b0.frozen 0
    have f1 := b0.frozen 1
    simp only [List.getElem?_toArray, List.getElem?_cons_zero, List.getElem?_cons_succ] at r0 r1
    go_wp2_with fail
    have B3 := (b0.set 0 (.int .u64 (hiW n))).set 1 (.int .u64 (loW n))
    have C0 := B3.cell 0
    have C1 := B3.cell 1
    simp at C0 C1
    exact bodyPost_ret (v := WV (hiW n) (loW n)) (by simp [results, Try.results34, go_sem, C0, C1]) rfl ⟨HN.out ▸ Reck.ok hc, (hB.setCell (by simp) _).setCell (by simp) _⟩
  · exact bodyPost_panic rfl ⟨Reck.no hc, hB⟩

set_option maxHeartbeats 400000 in
theorem mulc_any (ba bb : Nat) (a b c d : Int) (ha : Wd a) (hb : Wd b) (hc : Wd c) (hd : Wd d) (w : World) (hba : Blk w ba #[.int .u64 a, .int .u64 b] 26) (hbb : Blk w bb #[.int .u64 c, .int .u64 d] 26) :
    Calls Try.prog 36 #[.pointer (some ⟨ba, 0, none⟩), .pointer (some ⟨bb, 0, none⟩)] w fun e w' => Reck (num (a, b) * num (c, d) < Big) (num (a, b) * num (c, d)) e ∧ Below w.heap.size w w' := by
  have c0 := hba.cell 0
  have c1 := hba.cell 1
  have d0 := hbb.cell 0
  have d1 := hbb.cell 1
  have hlt := hba.lt
  have hlt2 := hbb.lt
  simp only [List.getElem?_toArray, List.getElem?_cons_zero, List.getElem?_cons_succ] at c0 c1 d0 d1
  go_enter Try.func36, Try.ntmps36
  go_wp2_with fail
  refine (product_any a b c d ha hb hc hd _).mono ?_
  rintro e w' ⟨hr, hb⟩
  have b0 : Blk w' w.heap.size #[.int .u64 0, .int .u64 0] 26 := (Blk.new _ _ _).later hb
  have hB : Below w.heap.size w w' := ((Below.refl _ _).alloc (Nat.le_refl _) _).trans (hb.mono (by simp))
  clear c0 c1 d0 d1
  obtain ⟨n, hn⟩ : ∃ n, n = num (a, b) * num (c, d) := ⟨_, rfl⟩
  rw [← hn] at hr
  have HN := Lib.hid hn; clear hn
  rcases hr.fits with ⟨hc, rfl⟩ | ⟨hc, rfl⟩
  · have r0 := b0.cell 0
    have r1 := b0.cell 1
    have f0 := b0.frozen 0
    have f1 := b0.frozen 1
    simp only [List.getElem?_toArray, List.getElem?_cons_zero, List.getElem?_cons_succ] at r0 r1
    go_wp2_with fail
    have B3 := (b0.set 0 (.int .u64 (hiW n))).set 1 (.int .u64 (loW n))
    have C0 := B3.cell 0
    have C1 := B3.cell 1
    simp at C0 C1
    exact bodyPost_ret (v := WV (hiW n) (loW n)) (by simp [results, Try.results36, go_sem, C0, C1]) rfl ⟨HN.out ▸ Reck.ok hc, (hB.setCell (by simp) _).setCell (by simp) _⟩
  · exact bodyPost_panic rfl ⟨HN.out ▸ Reck.no hc, hB⟩
end Go.Proofs.Ytfknocgmobddmaa
