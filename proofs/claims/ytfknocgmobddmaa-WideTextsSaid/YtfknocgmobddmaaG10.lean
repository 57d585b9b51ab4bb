/- WideMore: sums, quotients and powers are those of the numbers, and what does not fit is told: for every list of numbers, every divisor and every exponent the law returns true. No condition. -/
import Derived.Test.YtfknocgmobddmaaG9
import Derived.Test.YtfknocgmobddmaaP0
import Derived.Deep.SlicePairs
namespace Go.Proofs.Ytfknocgmobddmaa
open Go.ChangeShapes Go.WideShapes Go.ChangeAt Go.RowKit Go.Joins Go.Proofs.Kit Go.Shelf

set_option maxHeartbeats 400000 in
theorem total_none (o : Option Addr) (cap : Nat) (w : World) :
    Calls Try.prog 46 #[.slice o 0 cap] w fun e w' => Reck (sumN [] < Big) (sumN []) e ∧ Below w.heap.size w w' := by
  go_enter Try.func46, Try.ntmps46
  go_wp2
  go_loopw [5, 6, 7, 8, 9, 12] (fun _ _ _ _ _ i wr => i = .int .i64 0 ∧ wr = (w.alloc (.cells #[.int .u64 0, .int .u64 0] 26)).alloc (.cells #[.int .u64 0, .int .u64 0] 26)) (fun _ _ _ _ _ i _ => 0)
  case atStart => exact ⟨rfl, rfl⟩
  case round =>
    obtain ⟨rfl, rfl⟩ := hrel
    go_wp2
    refine bodyPost_ret (v := WV 0 0) (by simp [results, Try.results46, go_sem]) rfl ⟨?_, ?_⟩
    · exact Reck.ok (c := 0 < Big) (S := 0) (by decide)
    · exact ((Below.refl _ _).alloc (Nat.le_refl _) _).alloc (by simp) _
set_option maxHeartbeats 400000 in
theorem sumc_none (bx : Nat) (o : Option Addr) (cap : Nat) (w : World) (hbx : Blk w bx #[.slice o 0 cap] 38) :
    Calls Try.prog 45 #[.pointer (some ⟨bx, 0, none⟩)] w fun e w' => Reck (sumN [] < Big) (sumN []) e ∧ Below w.heap.size w w' := by
  have c0 := hbx.cell 0
  have hlt := hbx.lt
  simp only [List.getElem?_toArray, List.getElem?_cons_zero] at c0
  go_enter Try.func45, Try.ntmps45
  go_wp2_with fail
  refine (total_none o cap _).mono ?_
  rintro e w' ⟨hr, hb⟩
  have b0 : Blk w' w.heap.size #[.int .u64 0, .int .u64 0] 26 := (Blk.new _ _ _).later hb
  have hB : Below w.heap.size w w' := ((Below.refl _ _).alloc (Nat.le_refl _) _).trans (hb.mono (by simp))
  rcases hr.fits with ⟨hc, rfl⟩ | ⟨hc, rfl⟩
  · have r0 := b0.cell 0
    have r1 := b0.cell 1
    have f0 := b0.frozen 0
    have f1 := b0.frozen 1
    simp only [List.getElem?_toArray, List.getElem?_cons_zero, List.getElem?_cons_succ] at r0 r1
    obtain ⟨n, hn⟩ : ∃ n, n = sumN [] := ⟨_, rfl⟩
    rw [← hn] at hc ⊢
    have HN := Lib.hid hn; clear hn
    go_wp2_with fail
    have B3 := (b0.set 0 (.int .u64 (hiW n))).set 1 (.int .u64 (loW n))
    have C0 := B3.cell 0
    have C1 := B3.cell 1
    simp at C0 C1
    exact bodyPost_ret (v := WV (hiW n) (loW n)) (by simp [results, Try.results45, go_sem, C0, C1]) rfl ⟨by rw [← HN.out]; exact Reck.ok hc, (hB.setCell (by simp) _).setCell (by simp) _⟩
  · exact bodyPost_panic rfl ⟨Reck.no hc, hB⟩
set_option maxHeartbeats 400000 in
theorem sum_none (a : Option Addr) (c : Nat) (w : World) :
    Calls Try.prog 24 #[.slice a 0 c] w fun e w' => Chk (sumN [] < Big) (sumN []) e ∧ Below w.heap.size w w' := by
  have hmf : ∀ (fn : Fn) (first cap : Array Value) (w : World), (Instr.makeFunc fn first cap).run Try.prog w = .ok (.func fn first cap) w := fun _ _ _ _ => rfl
  go_enter Try.func24, Try.ntmps24
  go_wp2_with fail
  refine (checked_any (sumN [] < Big) (sumN []) 45 _ _ ent45 (by simpa [Nat.add_assoc] using sumc_none w.heap.size a c _ ((((Blk.new _ _ _).alloc _).alloc _).alloc _))).mono ?_
  rintro e w' ⟨hr, hb⟩
  have b0 : Blk w' (w.heap.size + 1) #[.int .u64 0, .int .u64 0] 26 := Blk.later (by simpa using Blk.new (w.alloc (.cells #[.slice a 0 c] 38)) #[.int .u64 0, .int .u64 0] 26) hb
  have hB : Below w.heap.size w w' := (below2 w _ _).trans (hb.mono (by simp; omega))
  obtain ⟨n, hn⟩ : ∃ n, n = sumN [] := ⟨_, rfl⟩
  rw [← hn] at hr
  have HN := Lib.hid hn; clear hn
  have r0 := b0.cell 0
  have r1 := b0.cell 1
  have f0 := b0.frozen 0
  have f1 := b0.frozen 1
  simp only [List.getElem?_toArray, List.getElem?_cons_zero, List.getElem?_cons_succ] at r0 r1
  rcases hr.fits with ⟨hc, rfl⟩ | ⟨hc, rfl⟩
  · go_wp2_with fail
    have B3 := (b0.set 0 (.int .u64 (hiW n))).set 1 (.int .u64 (loW n))
    have C0 := B3.cell 0
    have C1 := B3.cell 1
    simp at C0 C1
    exact bodyPost_ret (v := .tuple #[WV (hiW n) (loW n), .int .i64 0]) (by simp [results, Try.results24, go_sem, C0, C1]) rfl ⟨HN.out ▸ Chk.ok hc, (hB.setCell (by simp) _).setCell (by simp) _⟩
  · go_wp2_with fail
    have B3 := (b0.set 0 (.int .u64 0)).set 1 (.int .u64 0)
    have C0 := B3.cell 0
    have C1 := B3.cell 1
    simp at C0 C1
    exact bodyPost_ret (v := .tuple #[WV 0 0, .int .i64 110]) (by simp [results, Try.results24, go_sem, C0, C1]) rfl ⟨HN.out ▸ Chk.no (by omega), (hB.setCell (by simp) _).setCell (by simp) _⟩

/-- A slice of wide numbers that came in. -/
def ArgP (w : World) (o : Option Addr) (l : List (Int × Int)) : Prop :=
  l = [] ∨ ∃ b off, o = some ⟨b, off, none⟩ ∧ b < w.heap.size ∧ ∀ k (h : k < l.length), w.cell? ⟨b, off + k * 2, none⟩ = some (.int .u64 l[k].1) ∧ w.cell? ⟨b, off + k * 2 + 1, none⟩ = some (.int .u64 l[k].2)
theorem ArgP.take {w : World} {o : Option Addr} {l : List (Int × Int)} (h : ArgP w o l) (n : Nat) : ArgP w o (l.take n) := by
  rcases h with rfl | ⟨b, off, rfl, hb, hc⟩
  · exact .inl (by simp)
  · refine .inr ⟨b, off, rfl, hb, fun k hk => ?_⟩
    have hk' : k < l.length := by rw [List.length_take] at hk; omega
    rw [List.getElem_take]
    exact hc k hk'
theorem add_at (b off j : Nat) : (Addr.mk b off none).add j = ⟨b, off + j, none⟩ := by
  unfold Addr.add
  split
  · next h => subst h; rfl
  · rfl

theorem more_true (o : Option Addr) (cap : Nat) (l : List (Int × Int)) (hlc : l.length ≤ cap) (hm : cap ≤ maxLen) (y : Int) (hy : Wd y) (n : Int) (hn : n < 9223372036854775808) (w : World) (hl : ArgP w o l) (hp : ∀ p ∈ l, Wp p) :
    Calls Try.prog 4 #[.slice o l.length cap, .int .u64 y, .int .i64 n] w fun e w' => e = .returned (.bool true) ∧ Below w.heap.size w w' := by
  have hp' : ∀ p ∈ l.take 12, Wp p := fun p h => hp p (List.mem_of_mem_take h)
  have hlen : (l.take 12).length = min l.length 12 := by rw [List.length_take, Nat.min_comm]
  refine more_at o l.length cap (min l.length 12) (l.take 12) hlc hm rfl hlen y hy n hn w (hl.take 12) hp' fun wz hb => ?_
  rcases hl.take 12 with he | ⟨b, off, rfl, hlt, hc⟩
  · rw [← hlen, he]
    exact sum_none o cap wz
  · rw [← hlen]
    exact sum_any _ _ wz ⟨hp', by omega, .inr ⟨b, off, cap, rfl, Nat.lt_of_lt_of_le hlt hb.size, fun k h => ⟨(hb.cell (p := ⟨b, _, none⟩) hlt).trans (hc k h).1, (hb.cell (p := ⟨b, _, none⟩) hlt).trans (hc k h).2⟩⟩⟩

set_option maxRecDepth 100000 in
/-- An argument that is a slice of wide numbers. -/
theorem open_widesP {H : Type} {enc : TypeId × Value → H} {W : World} {r : Reach} {b0 : Nat} {v : Value} {d : DataW H} {p : List MemPlace} (hv : Value.okWide Try.prog W r b0 38 v) (h : DataW.Trod enc Try.prog W 0 (fun _ => true) true 38 v d p) :
    ∃ (o : Option Addr) (cap : Nat) (l : List (Int × Int)), v = .slice o l.length cap ∧ l.length ≤ cap ∧ cap ≤ maxLen ∧ ArgP W o l ∧ ∀ p ∈ l, Wp p := by
  obtain ⟨o, len, cap, rfl⟩ := okWide_slice Try.underlying38 hv
  obtain ⟨fuel, hf⟩ := h
  rcases Deep.open_slice_pairs Try.underlying38 Try.underlying26 cells26 (by kernel_rfl) (by kernel_rfl) (by kernel_rfl) (by kernel_rfl) hf with ⟨h0, _⟩ | ⟨a, len', cap', m, n, V0, V1, D0, D1, P0, P1, h0, _, hlc, hcm, hm, _, hx⟩
  · simp [Value.cells] at h0
    obtain ⟨rfl, rfl, rfl⟩ := h0
    exact ⟨none, 0, [], rfl, by simp, by simp, .inl rfl, by simp⟩
  · simp [Value.cells] at h0
    obtain ⟨rfl, rfl, rfl⟩ := h0
    have hlm : len ≤ m := by rw [hm]; simp; exact hlc
    have each : ∀ i, i < len → ∃ q : Int × Int, W.cell? (a.add (i * 2)) = some (.int .u64 q.1) ∧ W.cell? (a.add (i * 2 + 1)) = some (.int .u64 q.2) ∧ Wp q := by
      intro i hi
      obtain ⟨e0, e1, t0, t1⟩ := hx i (by omega)
      obtain ⟨x, z0, _, wx⟩ := DataW.trod_int Try.underlying24 t0
      obtain ⟨y, z1, _, wy⟩ := DataW.trod_int Try.underlying24 t1
      simp at z0 z1
      rw [z0] at e0
      rw [z1] at e1
      exact ⟨(x, y), e0, e1, wd_of_wf wx, wd_of_wf wy⟩
    obtain ⟨q, hq⟩ := Deep.choose_lt each
    refine ⟨some a, cap, (List.range len).map q, by simp, by simpa using hlc, hcm, ?_, ?_⟩
    · by_cases h0 : len = 0
      · exact .inl (by rw [h0]; rfl)
      · have e0 := (hq 0 (by omega)).1
        obtain ⟨b, off, spot⟩ := a
        have hspot : spot = none := by simpa [Addr.add] using World.cell?_spot e0
        subst hspot
        have hb := World.block_lt_of_cell? _ _ e0
        rw [add_at] at hb
        refine .inr ⟨b, off, rfl, hb, fun k hk => ?_⟩
        have hk' : k < len := by simpa using hk
        obtain ⟨f0, f1, _⟩ := hq k hk'
        rw [add_at] at f0 f1
        simp only [List.getElem_map, List.getElem_range]
        exact ⟨f0, f1⟩
    · intro p hp
      obtain ⟨i, hi, rfl⟩ := List.mem_map.1 hp
      exact (hq i (List.mem_range.1 hi)).2.2

set_option maxRecDepth 100000 in
theorem wideMore_lifted (os : Os) (started : os.Started) (H : Type) (enc : TypeId × Value → H) :
    ReturnsInHanded {} Try.checked os 4 .any (Rows.wideMoreSpec.pre6 enc Try.prog Try.f4 Rows.wideMoreRow.domain false) (Rows.wideMoreSpec.post enc Try.prog Try.f4 false true false false) := by
  refine returnsInHanded_of_change (C := Try.checked) own started (by kernel_rfl) Try.func4
    (ChangeSpec.witness6 (enc := enc) (C := Try.checked) false ⟨#[], #[.slice none 0 0, .int .u64 0, .int .i64 0], []⟩ 8 (by kernel_rfl) (by kernel_rfl) (by kernel_rfl) (by kernel_rfl)) ?_
  intro W base args ds gs before hval0 hW _ _
  have hval : ∀ (j : Nat) t v, Try.f4.params[j]? = some t → args[j]? = some v → Value.okWide Try.prog W .any base t v := hval0
  have hW' := hW
  obtain ⟨p, q, hA0, hV, rfl, _, _⟩ := hW
  have hA : DataW.TrodAll enc Try.prog W 0 (fun _ => true) true Try.f4.params.toList args.toList ds p := hA0
  rw [Try.params4] at hA hval
  obtain ⟨v0, v1, v2, d0, d1, d2, p0, p1, p2, rfl, rfl, rfl, h0, h1, h2⟩ := trodAll_three hA
  obtain ⟨rfl, rfl⟩ := trodVars_none hV
  obtain ⟨o, cap, l, rfl, hlc, hm, hl, hp⟩ := open_widesP (hval 0 38 v0 rfl rfl) h0
  obtain ⟨y, rfl, rfl, rfl, wy⟩ := open_int Try.underlying24 (hval 1 24 v1 rfl rfl) h1
  obtain ⟨n, rfl, rfl, rfl, wn⟩ := open_int Try.underlying3 (hval 2 3 v2 rfl rfl) h2
  have hn : n < 9223372036854775808 := by
    simp [Lit.wf, IntKind.min, IntKind.max, IntKind.signed, IntKind.bits] at wn
    omega
  refine (more_true o cap l hlc hm y (wd_of_wf wy) n hn W hl hp).mono fun e W' ⟨he, hb⟩ => ?_
  subst he
  exact ⟨_, rfl, law_post laidOut (by kernel_rfl) (by kernel_rfl : Try.f4.resultTypes = #[4]) Try.underlying4 rfl hW' rfl hb⟩

theorem wideMore_holds : Rows.WideMoreSaid :=
  OpenClaim.holds_of_wide 4 Try.f4 rfl rfl rfl rfl rfl rfl rfl ⟨rfl, rfl, rfl, rfl, rfl⟩ rfl rfl rfl rfl rfl (by kernel_rfl) Try.func4 (by kernel_rfl)
    (of_decide_eq_true (by kernel_rfl)) (by unfold Func.isWrapper; first | (rw [if_pos (by decide +kernel)]; kernel_rfl) | (rw [if_neg (by decide +kernel)]; exact ⟨rfl, rfl⟩))
    (fun os started H enc _ => wideMore_lifted os started H enc)
#print axioms wideMore_holds
end Go.Proofs.Ytfknocgmobddmaa
