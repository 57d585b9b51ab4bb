/- DictFull: the law's walk. -/
import Derived.Test.YtmghbejbdkoehaaMl
import Derived.Test.YtmghbejbdkoehaaK24
import Derived.Test.YtmghbejbdkoehaaK29
import Derived.Test.YtmghbejbdkoehaaTk
namespace Go.Proofs.Kit
open Go.RowKit
/-- The names that are put. -/
def digs : ByteArray := ⟨#[97, 98, 99, 100, 101, 102, 103, 104, 105, 106, 107, 108]⟩
def nmF (i : Nat) : ByteArray := ⟨#[110, UInt8.ofNat (97 + i / 12), UInt8.ofNat (97 + i % 12)]⟩
def nmL (i : Nat) : List ByteArray := (List.range i).map nmF
theorem nmF_inj {i j : Nat} (hi : i < 128) (hj : j < 128) (h : nmF i = nmF j) : i = j := by
  unfold nmF at h
  injection h with h
  simp at h
  obtain ⟨h1, h2⟩ := h
  have h1 := congrArg UInt8.toNat h1
  have h2 := congrArg UInt8.toNat h2
  simp at h1 h2
  omega
theorem nmL_not {i : Nat} (hi : i < 128) : nmF i ∉ nmL i := by
  intro h
  obtain ⟨j, hj, e⟩ := List.mem_map.1 h
  have hj := List.mem_range.1 hj
  have := nmF_inj (by omega) hi e
  omega
theorem nmL_succ (i : Nat) : nmL (i + 1) = nmL i ++ [nmF i] := by simp [nmL, List.range_succ]
theorem nmL_len (i : Nat) : (nmL i).length = i := by simp [nmL]
theorem nm_may : ∀ i : Nat, i < 128 → ∀ n : Nat, n < 5 → mayB (n : Int) (nmF i) = true := by decide +kernel
theorem nm_form' : ∀ q : Nat, q < 11 → ∀ r : Nat, r < 12 → ({ data := #[110] } ++ ({ data := #[97, 98, 99, 100, 101, 102, 103, 104, 105, 106, 107, 108] } : ByteArray).extract q (q + 1) ++ ({ data := #[97, 98, 99, 100, 101, 102, 103, 104, 105, 106, 107, 108] } : ByteArray).extract r (r + 1)) = nmF (12 * q + r) := by decide +kernel
theorem nm_form (q r : Nat) (hq : q ≤ 10) (hr : r < 12) : ({ data := #[110] } ++ ({ data := #[97, 98, 99, 100, 101, 102, 103, 104, 105, 106, 107, 108] } : ByteArray).extract q (q + 1) ++ ({ data := #[97, 98, 99, 100, 101, 102, 103, 104, 105, 106, 107, 108] } : ByteArray).extract r (r + 1)) = nmF (12 * q + r) := nm_form' q (by omega) r hr
/-- How it stands ahead of a round. -/
structure FI (tD ts ti : TypeId) (hs : ByteArray → Nat) (w : World) (p n i : Nat) (A B : Nat → Value) (T : Nat → List ByteArray) (S : Nat → List Int) (W : World) : Prop where
  kp : Blk W p (dcs A B) tD
  ow : DOw ts ti w.heap.size W A B T S
  lim : DLim T S
  good : DGood hs T S
  tn : T n = nmL i
  oth : ∀ k, k < 5 → k ≠ n → T k = []
  low : Below w.heap.size w W
theorem FI.next {tD ts ti : TypeId} {hs : ByteArray → Nat} {w : World} {p n i j : Nat} {A B C D : Nat → Value} {T T' : Nat → List ByteArray} {S S' : Nat → List Int} {W : World} (h : FI tD ts ti hs w p n i A B T S W) (o : DOw ts ti w.heap.size W C D T' S') (hL : DLim T' S') (hg : DGood hs T' S') (hT : T' n = nmL j) (ho : ∀ k, k < 5 → k ≠ n → T' k = [])
    (h1 : ts ≠ tD) (h2 : ti ≠ tD) (hp : w.heap.size ≤ p) : FI tD ts ti hs w p n j C D T' S' (dsets W p C D) :=
  ⟨dsets_blk h.kp C D, o.dsets h.kp h1 h2 C D, hL, hg, hT, ho, dsets_below h.low hp C D⟩
theorem nm_o : ∀ n : Nat, n < 5 → mayB (n : Int) ⟨#[111]⟩ = true := by decide +kernel
theorem nm_naa : nmF 0 = ⟨#[110, 97, 97]⟩ := by decide +kernel
theorem nmL_o (i : Nat) : (⟨#[111]⟩ : ByteArray) ∉ nmL i := by
  intro h
  obtain ⟨j, _, e⟩ := List.mem_map.1 h
  have := congrArg ByteArray.size e
  simp [nmF, ByteArray.size] at this
theorem nmL_naa : (⟨#[110, 97, 97]⟩ : ByteArray) ∈ nmL 128 := by
  rw [← nm_naa]
  exact List.mem_map.2 ⟨0, by simp, rfl⟩
/-- No room for one more. -/
theorem fi_full {tD ts ti : TypeId} {hs : ByteArray → Nat} {w : World} {p n : Nat} {A B : Nat → Value} {T : Nat → List ByteArray} {S : Nat → List Int} {W0 wb : World} {e : Ending} (h : FI tD ts ti hs w p n 128 A B T S W0) (hn : n < 5) (hP : DPutP ts ti hs W0 T S (n : Int) ⟨#[111]⟩ e wb) :
    e = .returned (.tuple #[.agg (dcs (fun _ => nilV) (fun _ => nilV)), .int .i64 0, .int .i64 6]) ∧ Below W0.heap.size W0 wb := by
  have hnot : (⟨#[111]⟩ : ByteArray) ∉ T n := by rw [h.tn]; exact nmL_o _
  cases hP with
  | bad _ h1 _ => exact (h1 h.good).elim
  | arg _ _ hm _ => rw [nm_o n hn] at hm; cases hm
  | full n2 _ _ hn2 hk2 hm hni hl hb2 => exact ⟨rfl, hb2⟩
  | ok n2 _ A2 B2 T2 S2 _ hk2 p hl =>
    obtain rfl : n = n2 := by omega
    rcases hl with hl | hl
    · exact (hnot hl).elim
    · rw [h.tn, nmL_len] at hl; omega
/-- The first one is there. -/
theorem fi_again {tD ts ti : TypeId} {hs : ByteArray → Nat} {w : World} {p n : Nat} {A B : Nat → Value} {T : Nat → List ByteArray} {S : Nat → List Int} {W0 wb : World} {e : Ending} (h : FI tD ts ti hs w p n 128 A B T S W0) (hn : n < 5) (hP : DPutP ts ti hs W0 T S (n : Int) ⟨#[110, 97, 97]⟩ e wb) :
    ∃ C' D', e = .returned (.tuple #[.agg (dcs C' D'), .int .i64 0, .int .i64 0]) ∧ ((∀ k, ∃ o m c, C' k = .slice o m c) ∧ ∀ k, ∃ o m c, D' k = .slice o m c) ∧ Below W0.heap.size W0 wb := by
  have hin : (⟨#[110, 97, 97]⟩ : ByteArray) ∈ T n := by rw [h.tn]; exact nmL_naa
  cases hP with
  | bad _ h1 _ => exact (h1 h.good).elim
  | arg _ _ hm _ => rw [← nm_naa, nm_may 0 (by omega) n hn] at hm; cases hm
  | full n2 _ _ hn2 hk2 hm hni hl hb2 =>
    obtain rfl : n = n2 := by omega
    exact (hni hin).elim
  | ok n2 _ A2 B2 T2 S2 _ hk2 p hl =>
    obtain rfl : n = n2 := by omega
    refine ⟨A2, B2, ?_, p.ow.slA, p.low⟩
    have h0 : pos (T n) (⟨#[110, 97, 97]⟩ : ByteArray) = 0 := by
      have hd := (dgood_iff.1 h.good n hn).1.nodup
      rw [h.tn] at hd ⊢
      have := pos_at hd (i := 0) (by rw [nmL_len]; omega)
      rwa [show (nmL 128)[0]'(by rw [nmL_len]; omega) = nmF 0 by simp [nmL], nm_naa] at this
    unfold putI; rw [if_pos hin, h0]; rfl
/-- Another kind has room. -/
theorem fi_other {tD ts ti : TypeId} {hs : ByteArray → Nat} {w : World} {p n m : Nat} {A B : Nat → Value} {T : Nat → List ByteArray} {S : Nat → List Int} {W0 wb : World} {e : Ending} (h : FI tD ts ti hs w p n 128 A B T S W0) (hn : n < 5) (hm5 : m < 5) (hmn : m ≠ n) (hP : DPutP ts ti hs W0 T S (m : Int) ⟨#[110, 97, 97]⟩ e wb) :
    ∃ C' D' T' S', e = .returned (.tuple #[.agg (dcs C' D'), .int .i64 0, .int .i64 0]) ∧ DOw ts ti W0.heap.size wb C' D' T' S' ∧ DLim T' S' ∧ DGood hs T' S' ∧ T' n = nmL 128 ∧ Below W0.heap.size W0 wb := by
  have h0 := h.oth m hm5 hmn
  cases hP with
  | bad _ h1 _ => exact (h1 h.good).elim
  | arg _ _ hm _ => rw [← nm_naa, nm_may 0 (by omega) m hm5] at hm; cases hm
  | full n2 _ _ hn2 hk2 hm hni hl hb2 =>
    obtain rfl : m = n2 := by omega
    rw [h0] at hl
    simp at hl
  | ok n2 _ A2 B2 T2 S2 _ hk2 p hl =>
    obtain rfl : m = n2 := by omega
    refine ⟨A2, B2, T2, S2, ?_, p.ow, p.lim, p.good, by rw [p.oth n hn (fun e => hmn e.symm), h.tn], p.low⟩
    rw [h0]; rfl
theorem FI.later {tD ts ti : TypeId} {hs : ByteArray → Nat} {w : World} {p n i : Nat} {A B : Nat → Value} {T : Nat → List ByteArray} {S : Nat → List Int} {W W' : World} (h : FI tD ts ti hs w p n i A B T S W) (g : Below W.heap.size W W') : FI tD ts ti hs w p n i A B T S W' :=
  ⟨h.kp.later g, h.ow.later g, h.lim, h.good, h.tn, h.oth, h.low.trans (g.mono h.low.size)⟩
/-- The next name is a new one, and there is room. -/
theorem fi_put {tD ts ti : TypeId} {hs : ByteArray → Nat} {w : World} {p n k : Nat} {A B : Nat → Value} {T : Nat → List ByteArray} {S : Nat → List Int} {W0 w' wb : World} {e : Ending} (h : FI tD ts ti hs w p n k A B T S W0) (hn : n < 5) (hk : k < 128) (hb : Below W0.heap.size W0 w') (hP : DPutP ts ti hs w' T S (n : Int) (nmF k) e wb) :
    ∃ C' D' T' S', e = .returned (.tuple #[.agg (dcs C' D'), .int .i64 (k : Int), .int .i64 0]) ∧ DOw ts ti w.heap.size wb C' D' T' S' ∧ DLim T' S' ∧ DGood hs T' S' ∧ T' n = nmL (k + 1) ∧ (∀ k, k < 5 → k ≠ n → T' k = []) ∧ Below w'.heap.size w' wb ∧ Below W0.heap.size W0 wb := by
  have hnot : nmF k ∉ T n := by rw [h.tn]; exact nmL_not hk
  have hw : w.heap.size ≤ w'.heap.size := Nat.le_trans h.low.size hb.size
  cases hP with
  | bad _ h1 _ => exact (h1 h.good).elim
  | arg _ _ hm _ => rw [nm_may k hk n hn] at hm; cases hm
  | full n2 _ _ hn2 hk2 hm hni hl hb2 =>
    obtain rfl : n = n2 := by omega
    rw [h.tn, nmL_len] at hl
    omega
  | ok n2 _ A2 B2 T2 S2 _ hk2 p hl =>
    obtain rfl : n = n2 := by omega
    refine ⟨A2, B2, T2, S2, ?_, p.ow.mono hw, p.lim, p.good, ?_, fun j hj hne => by rw [p.oth j hj hne, h.oth j hj hne], p.low, hb.trans (p.low.mono hb.size)⟩
    · unfold putI; rw [if_neg hnot, h.tn, nmL_len]
    · rw [p.tn]; unfold putT; rw [if_neg hnot, h.tn, nmL_succ]
theorem Blk.later_drew {w w' : World} {g : Nat} {vs : Array Value} {t : TypeId} (h : Blk w g vs t) (hb : Below w.drew.heap.size w.drew w') : Blk w' g vs t := Blk.later (w := w.drew) h hb
end Go.Proofs.Kit
namespace Go.Proofs.Ytmghbejbdkoehaa
open Go.RowKit Go.Proofs.Kit Go.Shelf

set_option maxRecDepth 100000 in
set_option maxHeartbeats 4000000 in
theorem full6_true (kind more : Int) (w : World) :
    Calls Try.prog 9 #[.int .i64 kind, .int .i64 more] w fun e w' => e = .returned (.bool true) ∧ Below w.heap.size w w' := by
  have hmix := mixed
  go_enter Try.func9, Try.ntmps9
  go_wp2_with fail
  refine (wakes6_any w).mono ?_
  rintro e w1 ⟨rfl, h1⟩
  have B1 := Lib.hid h1
  clear h1
  go_wp2_with fail
  obtain ⟨n, hn, hw⟩ : ∃ n : Nat, n < 5 ∧ wrap64 ((IntKind.u64.wrap kind).tmod 5) = (n : Int) := by
    obtain ⟨u, hu⟩ : ∃ u, u = IntKind.u64.wrap kind := ⟨_, rfl⟩
    have hu0 : 0 ≤ u := by rw [hu, IntKind.wrap_u64]; omega
    rw [← hu, Int.tmod_eq_emod_of_nonneg hu0]
    refine ⟨(u % 5).toNat, by omega, ?_⟩
    have : wrap64 (u % 5) = u % 5 := by unfold wrap64; omega
    rw [this]; omega
  rw [hw]
  clear hw
  refine (dnew_any w1).mono ?_
  rintro e w2 ⟨A, B, rfl, hO, h2⟩
  obtain ⟨X2, hX2⟩ : ∃ X2, X2 = w2.alloc (.cells (dcs A B) 28) := ⟨_, rfl⟩
  have eX2 : w2.alloc (.cells #[A 0, B 0, A 1, B 1, A 2, B 2, A 3, B 3, A 4, B 4] 28) = X2 := hX2.symm
  have k2 : Blk X2 w2.heap.size (dcs A B) 28 := by rw [hX2]; exact Blk.new _ _ _
  have g2 : Below w2.heap.size w2 X2 := by rw [hX2]; exact (Gr.alloc _ _).below
  obtain ⟨sa, sb⟩ := hO.slA
  have hsa := fun k w p m => st_slice (P := Try.prog) sa k w p m
  have hsb := fun k w p m => st_slice (P := Try.prog) sb k w p m
  have b2 := B1.out.trans (h2.mono B1.out.size)
  have lim0 : DLim (fun _ => []) newS := ⟨fun k => by simp, fun k => by unfold newS; split <;> simp, fun k => by simp⟩
  have good0 : DGood hsh (fun _ => []) newS := dgood_iff.2 fun k hk => ⟨by unfold newS; rw [if_pos hk]; exact good_new, by simp, by simp⟩
  have F2 : Hid (FI 28 9 3 hsh w w2.heap.size n 0 A B (fun _ => []) newS X2) :=
    Lib.hid ⟨k2, (hO.mono B1.out.size).later g2, lim0, good0, by simp [nmL], fun _ _ _ => rfl, b2.trans (g2.mono b2.size)⟩
  have HP := Lib.hid b2.size
  clear hX2 hO k2 g2 sa sb b2 h2 lim0 good0 B1
  simp only [dcs]
  go_wp2_with fail
  clear hsa hsb eX2
  go_loopw [7, 8, 9, 10, 28] (fun _ _ _ _ i wr => ∃ (k : Nat) (C D : Nat → Value) (T : Nat → List ByteArray) (S : Nat → List Int), k ≤ 128 ∧ i = .int .i64 (k : Int) ∧ Hid (FI 28 9 3 hsh w w2.heap.size n k C D T S wr)) (fun _ _ _ _ i _ => 128 - (intOf i).toNat)
  case atStart => exact ⟨0, A, B, _, _, Nat.zero_le _, rfl, F2⟩
  case round =>
    clear F2
    obtain ⟨k, C, D, T, S, hk, rfl, HK⟩ := hrel
    obtain ⟨W0, rfl⟩ : ∃ x : World, x = wr := ⟨_, rfl⟩
    by_cases hlt : k < 128
    · have hlt' : (k : Int) < 128 := by omega
      go_upto_region 9 with fail
      go_cut [8, 9, 10] from 31 to 53 (fun s8 s9 s10 wd => ∃ p8 C' D' T' S', s8 = .pointer (some ⟨p8, 0, none⟩) ∧ s9 = .int .i64 (k : Int) ∧ s10 = .int .i64 0 ∧ Hid (Blk wd p8 (dcs C' D') 28) ∧ Hid (DOw 9 3 w.heap.size wd C' D' T' S') ∧ Hid (DLim T' S') ∧ Hid (DGood hsh T' S') ∧ Hid (T' n = nmL (k + 1)) ∧ Hid (∀ k, k < 5 → k ≠ n → T' k = []) ∧ Hid (Below W0.heap.size W0 wd))
      case first =>
        have bc : Below W0.heap.size W0 W0 := Below.refl _ _
        have DC := Lib.hid (fun w' (hb : Below W0.heap.size W0 w') => dcells_at HK.out.kp hb)
        obtain ⟨q, r, hqr, hq, hr⟩ : ∃ q r : Nat, k = 12 * q + r ∧ q ≤ 10 ∧ r < 12 := ⟨k / 12, k % 12, by omega, by omega, by omega⟩
        have hq1 : (k : Int).tdiv 12 = (q : Int) := by rw [Int.tdiv_eq_ediv_of_nonneg (by omega)]; omega
        have hr1 : (k : Int).tmod 12 = (r : Int) := by rw [Int.tmod_eq_emod_of_nonneg (by omega)]; omega
        have HQR := Lib.hid hqr
        have z1 : IntKind.i64.wrap (q : Int) = (q : Int) := by rw [IntKind.wrap_i64]; omega
        have z2 : IntKind.i64.wrap ((q : Int) + 1) = (q : Int) + 1 := by rw [IntKind.wrap_i64]; omega
        have z3 : IntKind.i64.wrap (r : Int) = (r : Int) := by rw [IntKind.wrap_i64]; omega
        have z4 : IntKind.i64.wrap ((r : Int) + 1) = (r : Int) + 1 := by rw [IntKind.wrap_i64]; omega
        have y1 : (q : Int) + 1 ≤ 12 := by omega
        have y2 : (r : Int) + 1 ≤ 12 := by omega
        have y3 : (0 : Int) ≤ (q : Int) + 1 := by omega
        have y4 : (0 : Int) ≤ (r : Int) + 1 := by omega
        have y5 : (q : Int) ≤ (q : Int) + 1 := by omega
        have y6 : (r : Int) ≤ (r : Int) + 1 := by omega
        have y7 : ¬ (9223372036854775807 < 1 + (min (q + 1) 12 - q)) := by omega
        have y8 : ¬ (9223372036854775807 < 1 + (min (q + 1) 12 - q) + (min (r + 1) 12 - r)) := by omega
        have hnm := nm_form q r hq hr
        rw [← hqr] at hnm
        have hsz : (nmF k).size ≤ 9223372036854775807 := by show 3 ≤ _; decide
        have f1 := fun w' (hb : Below W0.heap.size W0 w') => (dput_any C D T S w' (HK.out.ow.later hb).sl HK.out.lim (n : Int) (nmF k) hsz).mono
          (R' := fun e wb => ∃ C' D' T' S', e = .returned (.tuple #[.agg (dcs C' D'), .int .i64 (k : Int), .int .i64 0]) ∧ DOw 9 3 w.heap.size wb C' D' T' S' ∧ DLim T' S' ∧ DGood hsh T' S' ∧ T' n = nmL (k + 1) ∧ (∀ k, k < 5 → k ≠ n → T' k = []) ∧ Below w'.heap.size w' wb ∧ Below W0.heap.size W0 wb)
          fun e wb hP => fi_put HK.out hn hlt hb hP
        rw [← hnm] at f1
        simp only [dcs] at f1
        have F1 := Lib.hid f1
        clear hqr f1 hnm hsz HK HP
        refine wp_region_held_drew (S := (fun w' => w'.cell? ⟨w2.heap.size, 0, none⟩ = some (C 0) ∧ w'.cell? ⟨w2.heap.size, 1, none⟩ = some (D 0) ∧ w'.cell? ⟨w2.heap.size, 2, none⟩ = some (C 1) ∧ w'.cell? ⟨w2.heap.size, 3, none⟩ = some (D 1) ∧ w'.cell? ⟨w2.heap.size, 4, none⟩ = some (C 2) ∧ w'.cell? ⟨w2.heap.size, 5, none⟩ = some (D 2) ∧ w'.cell? ⟨w2.heap.size, 6, none⟩ = some (C 3) ∧ w'.cell? ⟨w2.heap.size, 7, none⟩ = some (D 3) ∧ w'.cell? ⟨w2.heap.size, 8, none⟩ = some (C 4) ∧ w'.cell? ⟨w2.heap.size, 9, none⟩ = some (D 4))) (by kernel_rfl) ?_ (fun hHeld => ?_)
        · exact DC.out _ (bdr bc)
        refine takeOn 0 { dst := some 32, op := Op.load 28 (Operand.tmp 5), type := 28, pos := "outright.go:81", after := #[], guard := none } (v := ?v0) rfl (by kernel_rfl) (by kernel_rfl) (by kernel_rfl) (fun _ _ _ h => h) (by rfl) (by assumption) ?yv0 ?_
        case yv0 =>
          intro w hSw
          try dsimp only at hSw
          go_simp
          try (with_reducible rfl)
        try simp only [Act.put, List.setIfInBounds_toArray, List.set_cons_zero, List.set_cons_succ]
        refine takeOn 1 { dst := some 33, op := Op.move (Operand.tmp 0), type := 3, pos := "outright.go:81", after := #[], guard := none } (v := ?v1) rfl (by kernel_rfl) (by kernel_rfl) (by kernel_rfl) (fun _ _ _ h => h) (by rfl) (by assumption) ?yv1 ?_
        case yv1 =>
          intro w hSw
          try dsimp only at hSw
          go_simp
          try (with_reducible rfl)
        try simp only [Act.put, List.setIfInBounds_toArray, List.set_cons_zero, List.set_cons_succ]
        refine takeOn 2 { dst := some 34, op := Op.move (Operand.tmp 6), type := 9, pos := "outright.go:81", after := #[], guard := none } (v := ?v2) rfl (by kernel_rfl) (by kernel_rfl) (by kernel_rfl) (fun _ _ _ h => h) (by rfl) (by assumption) ?yv2 ?_
        case yv2 =>
          intro w hSw
          try dsimp only at hSw
          go_simp
          try (with_reducible rfl)
        try simp only [Act.put, List.setIfInBounds_toArray, List.set_cons_zero, List.set_cons_succ]
        refine takeOn 3 { dst := some 35, op := Op.move (Operand.tmp 7), type := 3, pos := "outright.go:81", after := #[], guard := none } (v := ?v3) rfl (by kernel_rfl) (by kernel_rfl) (by kernel_rfl) (fun _ _ _ h => h) (by rfl) (by assumption) ?yv3 ?_
        case yv3 =>
          intro w hSw
          try dsimp only at hSw
          go_simp
          try (with_reducible rfl)
        try simp only [Act.put, List.setIfInBounds_toArray, List.set_cons_zero, List.set_cons_succ]
        refine takeOn 4 { dst := some 36, op := Op.binOp BinOp.quo 3 (Operand.tmp 35) (Operand.const (Value.int IntKind.i64 12)) 3, type := 3, pos := "outright.go:81", after := #[{ on := 3, ground := Ground.data }], guard := none } (v := ?v4) rfl (by kernel_rfl) (by kernel_rfl) (by kernel_rfl) (fun _ _ _ h => h) (by rfl) (by assumption) ?yv4 ?_
        case yv4 =>
          intro w hSw
          try dsimp only at hSw
          go_simp
          try (with_reducible rfl)
        try simp only [Act.put, List.setIfInBounds_toArray, List.set_cons_zero, List.set_cons_succ]
        refine takeOn 5 { dst := some 37, op := Op.move (Operand.tmp 7), type := 3, pos := "outright.go:81", after := #[], guard := none } (v := ?v5) rfl (by kernel_rfl) (by kernel_rfl) (by kernel_rfl) (fun _ _ _ h => h) (by rfl) (by assumption) ?yv5 ?_
        case yv5 =>
          intro w hSw
          try dsimp only at hSw
          go_simp
          try (with_reducible rfl)
        try simp only [Act.put, List.setIfInBounds_toArray, List.set_cons_zero, List.set_cons_succ]
        refine takeOn 6 { dst := some 38, op := Op.binOp BinOp.quo 3 (Operand.tmp 37) (Operand.const (Value.int IntKind.i64 12)) 3, type := 3, pos := "outright.go:81", after := #[{ on := 5, ground := Ground.data }], guard := none } (v := ?v6) rfl (by kernel_rfl) (by kernel_rfl) (by kernel_rfl) (fun _ _ _ h => h) (by rfl) (by assumption) ?yv6 ?_
        case yv6 =>
          intro w hSw
          try dsimp only at hSw
          go_simp
          try (with_reducible rfl)
        try simp only [Act.put, List.setIfInBounds_toArray, List.set_cons_zero, List.set_cons_succ]
        refine takeOn 7 { dst := some 39, op := Op.binOp BinOp.add 3 (Operand.tmp 38) (Operand.const (Value.int IntKind.i64 1)) 3, type := 3, pos := "outright.go:81", after := #[{ on := 6, ground := Ground.data }], guard := none } (v := ?v7) rfl (by kernel_rfl) (by kernel_rfl) (by kernel_rfl) (fun _ _ _ h => h) (by rfl) (by assumption) ?yv7 ?_
        case yv7 =>
          intro w hSw
          try dsimp only at hSw
          go_simp
          try (with_reducible rfl)
        try simp only [Act.put, List.setIfInBounds_toArray, List.set_cons_zero, List.set_cons_succ]
        refine takeOn 8 { dst := some 40, op := Op.slice 9 (Operand.tmp 34) (some (Operand.tmp 36)) (some (Operand.tmp 39)) none, type := 9, pos := "outright.go:81", after := #[{ on := 2, ground := Ground.data }, { on := 4, ground := Ground.data }, { on := 7, ground := Ground.data }], guard := none } (v := ?v8) rfl (by kernel_rfl) (by kernel_rfl) (by kernel_rfl) (fun _ _ _ h => h) (by rfl) (by assumption) ?yv8 ?_
        case yv8 =>
          intro w hSw
          try dsimp only at hSw
          go_simp
          try (with_reducible rfl)
        try simp only [Act.put, List.setIfInBounds_toArray, List.set_cons_zero, List.set_cons_succ]
        refine takeOn 9 { dst := some 41, op := Op.binOp BinOp.add 9 (Operand.const (Value.string { data := #[110] })) (Operand.tmp 40) 9, type := 9, pos := "outright.go:81", after := #[{ on := 8, ground := Ground.data }], guard := none } (v := ?v9) rfl (by kernel_rfl) (by kernel_rfl) (by kernel_rfl) (fun _ _ _ h => h) (by rfl) (by assumption) ?yv9 ?_
        case yv9 =>
          intro w hSw
          try dsimp only at hSw
          go_simp
          try (with_reducible rfl)
        try simp only [Act.put, List.setIfInBounds_toArray, List.set_cons_zero, List.set_cons_succ]
        refine takeOn 10 { dst := some 42, op := Op.move (Operand.tmp 6), type := 9, pos := "outright.go:81", after := #[], guard := none } (v := ?v10) rfl (by kernel_rfl) (by kernel_rfl) (by kernel_rfl) (fun _ _ _ h => h) (by rfl) (by assumption) ?yv10 ?_
        case yv10 =>
          intro w hSw
          try dsimp only at hSw
          go_simp
          try (with_reducible rfl)
        try simp only [Act.put, List.setIfInBounds_toArray, List.set_cons_zero, List.set_cons_succ]
        refine takeOn 11 { dst := some 43, op := Op.move (Operand.tmp 7), type := 3, pos := "outright.go:81", after := #[], guard := none } (v := ?v11) rfl (by kernel_rfl) (by kernel_rfl) (by kernel_rfl) (fun _ _ _ h => h) (by rfl) (by assumption) ?yv11 ?_
        case yv11 =>
          intro w hSw
          try dsimp only at hSw
          go_simp
          try (with_reducible rfl)
        try simp only [Act.put, List.setIfInBounds_toArray, List.set_cons_zero, List.set_cons_succ]
        refine takeOn 12 { dst := some 44, op := Op.binOp BinOp.rem 3 (Operand.tmp 43) (Operand.const (Value.int IntKind.i64 12)) 3, type := 3, pos := "outright.go:81", after := #[{ on := 11, ground := Ground.data }], guard := none } (v := ?v12) rfl (by kernel_rfl) (by kernel_rfl) (by kernel_rfl) (fun _ _ _ h => h) (by rfl) (by assumption) ?yv12 ?_
        case yv12 =>
          intro w hSw
          try dsimp only at hSw
          go_simp
          try (with_reducible rfl)
        try simp only [Act.put, List.setIfInBounds_toArray, List.set_cons_zero, List.set_cons_succ]
        refine takeOn 13 { dst := some 45, op := Op.move (Operand.tmp 7), type := 3, pos := "outright.go:81", after := #[], guard := none } (v := ?v13) rfl (by kernel_rfl) (by kernel_rfl) (by kernel_rfl) (fun _ _ _ h => h) (by rfl) (by assumption) ?yv13 ?_
        case yv13 =>
          intro w hSw
          try dsimp only at hSw
          go_simp
          try (with_reducible rfl)
        try simp only [Act.put, List.setIfInBounds_toArray, List.set_cons_zero, List.set_cons_succ]
        refine takeOn 14 { dst := some 46, op := Op.binOp BinOp.rem 3 (Operand.tmp 45) (Operand.const (Value.int IntKind.i64 12)) 3, type := 3, pos := "outright.go:81", after := #[{ on := 13, ground := Ground.data }], guard := none } (v := ?v14) rfl (by kernel_rfl) (by kernel_rfl) (by kernel_rfl) (fun _ _ _ h => h) (by rfl) (by assumption) ?yv14 ?_
        case yv14 =>
          intro w hSw
          try dsimp only at hSw
          go_simp
          try (with_reducible rfl)
        try simp only [Act.put, List.setIfInBounds_toArray, List.set_cons_zero, List.set_cons_succ]
        refine takeOn 15 { dst := some 47, op := Op.binOp BinOp.add 3 (Operand.tmp 46) (Operand.const (Value.int IntKind.i64 1)) 3, type := 3, pos := "outright.go:81", after := #[{ on := 14, ground := Ground.data }], guard := none } (v := ?v15) rfl (by kernel_rfl) (by kernel_rfl) (by kernel_rfl) (fun _ _ _ h => h) (by rfl) (by assumption) ?yv15 ?_
        case yv15 =>
          intro w hSw
          try dsimp only at hSw
          go_simp
          try (with_reducible rfl)
        try simp only [Act.put, List.setIfInBounds_toArray, List.set_cons_zero, List.set_cons_succ]
        refine takeOn 16 { dst := some 48, op := Op.slice 9 (Operand.tmp 42) (some (Operand.tmp 44)) (some (Operand.tmp 47)) none, type := 9, pos := "outright.go:81", after := #[{ on := 10, ground := Ground.data }, { on := 12, ground := Ground.data }, { on := 15, ground := Ground.data }], guard := none } (v := ?v16) rfl (by kernel_rfl) (by kernel_rfl) (by kernel_rfl) (fun _ _ _ h => h) (by rfl) (by assumption) ?yv16 ?_
        case yv16 =>
          intro w hSw
          try dsimp only at hSw
          go_simp
          try (with_reducible rfl)
        try simp only [Act.put, List.setIfInBounds_toArray, List.set_cons_zero, List.set_cons_succ]
        refine takeOn 17 { dst := some 49, op := Op.binOp BinOp.add 9 (Operand.tmp 41) (Operand.tmp 48) 9, type := 9, pos := "outright.go:81", after := #[{ on := 9, ground := Ground.data }, { on := 16, ground := Ground.data }], guard := none } (v := ?v17) rfl (by kernel_rfl) (by kernel_rfl) (by kernel_rfl) (fun _ _ _ h => h) (by rfl) (by assumption) ?yv17 ?_
        case yv17 =>
          intro w hSw
          try dsimp only at hSw
          go_simp
          try (with_reducible rfl)
        try simp only [Act.put, List.setIfInBounds_toArray, List.set_cons_zero, List.set_cons_succ]
        refine wpAnyH_ready (rs := [18, 23]) (by kernel_rfl) (by simp) ?_
        refine (AllReadyH.cons (o := { dst := some 50, op := Op.call { callee := Callee.value (Operand.func 26), args := #[Operand.tmp 32, Operand.tmp 33, Operand.tmp 49], argTypes := #[28, 3, 9] }, type := 53, pos := "outright.go:81", after := #[{ on := 0, ground := Ground.data }, { on := 1, ground := Ground.data }, { on := 17, ground := Ground.data }], guard := none }) rfl (fun K hK => ?_) (AllReadyH.cons (o := { dst := some 8, op := Op.alloc 28, type := 0, pos := "outright.go:81", after := #[], guard := none }) rfl (fun K hK => ?_) AllReadyH.nil))
        · skip
          go_simp
          (with_reducible refine (F1.out _ (by first | exact bc | exact bdr bc)).mono ?_)
          rintro e wb ⟨C', D', T', S', rfl, hO, hL, hG, hT, hoth, hq, bc⟩
          have hO : DOw 9 3 w.heap.size wb C' D' T' S' := hO
          try (go_wp2_with fail)
          refine hK.out _ _ ?_ (fun hHeld => ?_)
          · first | exact DC.out _ bc | exact DC.out _ (bdr bc)
          clear hK K
          try simp only [Act.put, List.setIfInBounds_toArray, List.set_cons_zero, List.set_cons_succ]
          refine takeOn 19 { dst := some 31, op := Op.move (Operand.tmp 50), type := 53, pos := "outright.go:81", after := #[{ on := 18, ground := Ground.data }], guard := none } (v := ?v18) rfl (by kernel_rfl) (by kernel_rfl) (by kernel_rfl) (fun _ _ _ h => h) (by rfl) (by assumption) ?yv18 ?_
          case yv18 =>
            intro w hSw
            try dsimp only at hSw
            go_simp
            try (with_reducible rfl)
          try simp only [Act.put, List.setIfInBounds_toArray, List.set_cons_zero, List.set_cons_succ]
          refine takeOn 20 { dst := some 51, op := Op.extract (Operand.tmp 31) 0, type := 28, pos := "outright.go:81", after := #[{ on := 19, ground := Ground.data }], guard := none } (v := ?v19) rfl (by kernel_rfl) (by kernel_rfl) (by kernel_rfl) (fun _ _ _ h => h) (by rfl) (by assumption) ?yv19 ?_
          case yv19 =>
            intro w hSw
            try dsimp only at hSw
            go_simp
            try (with_reducible rfl)
          try simp only [Act.put, List.setIfInBounds_toArray, List.set_cons_zero, List.set_cons_succ]
          refine takeOn 21 { dst := some 52, op := Op.extract (Operand.tmp 31) 1, type := 3, pos := "outright.go:81", after := #[{ on := 19, ground := Ground.data }, { on := 24, ground := Ground.gcOnly Departure.lateStores }], guard := none } (v := ?v20) rfl (by kernel_rfl) (by kernel_rfl) (by kernel_rfl) (fun _ _ _ h => h) (by rfl) (by assumption) ?yv20 ?_
          case yv20 =>
            intro w hSw
            try dsimp only at hSw
            go_simp
            try (with_reducible rfl)
          try simp only [Act.put, List.setIfInBounds_toArray, List.set_cons_zero, List.set_cons_succ]
          refine takeOn 22 { dst := some 53, op := Op.extract (Operand.tmp 31) 2, type := 32, pos := "outright.go:81", after := #[{ on := 19, ground := Ground.data }, { on := 25, ground := Ground.gcOnly Departure.lateStores }], guard := none } (v := ?v21) rfl (by kernel_rfl) (by kernel_rfl) (by kernel_rfl) (fun _ _ _ h => h) (by rfl) (by assumption) ?yv21 ?_
          case yv21 =>
            intro w hSw
            try dsimp only at hSw
            go_simp
            try (with_reducible rfl)
          try simp only [Act.put, List.setIfInBounds_toArray, List.set_cons_zero, List.set_cons_succ]
          refine wpAnyH_ready (rs := [23]) (by kernel_rfl) (by simp) ?_
          refine (AllReadyH.cons (o := { dst := some 8, op := Op.alloc 28, type := 0, pos := "outright.go:81", after := #[], guard := none }) rfl (fun K hK => ?_) AllReadyH.nil)
          · skip
            have hpl : W0.heap.size ≤ wb.heap.size := bc.size
            obtain ⟨X, hX⟩ : ∃ X, X = wb.alloc (.cells (dcs (fun _ => nilV) (fun _ => nilV)) 28) := ⟨_, rfl⟩
            have eX : wb.alloc (.cells #[.slice none 0 0, .slice none 0 0, .slice none 0 0, .slice none 0 0, .slice none 0 0, .slice none 0 0, .slice none 0 0, .slice none 0 0, .slice none 0 0, .slice none 0 0] 28) = X := hX.symm
            have kX : Blk X wb.heap.size (dcs (fun _ => nilV) (fun _ => nilV)) 28 := by rw [hX]; exact Blk.new _ _ _
            have gX : Below wb.heap.size wb X := by rw [hX]; exact (Gr.alloc _ _).below
            have bc := bc.trans (gX.mono bc.size)
            have hO := hO.later gX
            clear hX
            go_simp
            clear eX gX
            refine hK.out _ _ ?_ (fun hHeld => ?_)
            · first | exact DC.out _ bc | exact DC.out _ (bdr bc)
            clear hK K
            try simp only [Act.put, List.setIfInBounds_toArray, List.set_cons_zero, List.set_cons_succ]
            refine wpAnyH_ready (rs := [24]) (by kernel_rfl) (by simp) ?_
            refine (AllReadyH.cons (o := { dst := none, op := Op.store 28 (Operand.tmp 8) (Operand.tmp 51), type := 0, pos := "outright.go:81", after := #[{ on := 23, ground := Ground.data }, { on := 20, ground := Ground.data }, { on := 18, ground := Ground.chain }, { on := 0, ground := Ground.phase }, { on := 1, ground := Ground.phase }, { on := 2, ground := Ground.phase }, { on := 3, ground := Ground.phase }, { on := 4, ground := Ground.phase }, { on := 5, ground := Ground.phase }, { on := 6, ground := Ground.phase }, { on := 7, ground := Ground.phase }, { on := 8, ground := Ground.phase }, { on := 9, ground := Ground.phase }, { on := 10, ground := Ground.phase }, { on := 11, ground := Ground.phase }, { on := 12, ground := Ground.phase }, { on := 13, ground := Ground.phase }, { on := 14, ground := Ground.phase }, { on := 15, ground := Ground.phase }, { on := 16, ground := Ground.phase }, { on := 17, ground := Ground.phase }, { on := 18, ground := Ground.phase }, { on := 19, ground := Ground.phase }, { on := 20, ground := Ground.phase }, { on := 21, ground := Ground.textOnly Departure.lateStores }, { on := 22, ground := Ground.textOnly Departure.lateStores }, { on := 23, ground := Ground.phase }], guard := none }) rfl (fun K hK => ?_) AllReadyH.nil)
            · skip
              obtain ⟨sa, sb⟩ := hO.slA
              have hsa := fun k w p m => st_slice (P := Try.prog) sa k w p m
              have hsb := fun k w p m => st_slice (P := Try.prog) sb k w p m
              obtain ⟨c0, c1, c2, c3, c4, c5, c6, c7, c8, c9⟩ := dcells kX
              have hfr := fun i => kX.frozen i
              have kd := dsets_blk kX C' D'
              have od := hO.dsets kX (by decide) (by decide) C' D'
              have bs := dsets_below bc hpl C' D'
              go_simp
              clear c0 c1 c2 c3 c4 c5 c6 c7 c8 c9 hfr hsa hsb
              refine hK.out _ _ ?_ (fun hHeld => ?_)
              · exact DC.out _ bs
              clear hK K
              try simp only [Act.put, List.setIfInBounds_toArray, List.set_cons_zero, List.set_cons_succ]
              refine takeOn 25 { dst := some 9, op := Op.assign (Operand.tmp 52), type := 3, pos := "outright.go:81", after := #[{ on := 21, ground := Ground.data }, { on := 24, ground := Ground.chain }, { on := 0, ground := Ground.phase }, { on := 1, ground := Ground.phase }, { on := 2, ground := Ground.phase }, { on := 3, ground := Ground.phase }, { on := 4, ground := Ground.phase }, { on := 5, ground := Ground.phase }, { on := 6, ground := Ground.phase }, { on := 7, ground := Ground.phase }, { on := 8, ground := Ground.phase }, { on := 9, ground := Ground.phase }, { on := 10, ground := Ground.phase }, { on := 11, ground := Ground.phase }, { on := 12, ground := Ground.phase }, { on := 13, ground := Ground.phase }, { on := 14, ground := Ground.phase }, { on := 15, ground := Ground.phase }, { on := 16, ground := Ground.phase }, { on := 17, ground := Ground.phase }, { on := 18, ground := Ground.phase }, { on := 19, ground := Ground.phase }, { on := 20, ground := Ground.phase }, { on := 21, ground := Ground.phase }, { on := 22, ground := Ground.textOnly Departure.lateStores }, { on := 23, ground := Ground.phase }, { on := 24, ground := Ground.phase }], guard := none } (v := ?v22) rfl (by kernel_rfl) (by kernel_rfl) (by kernel_rfl) (fun _ _ _ h => h) (by rfl) (by assumption) ?yv22 ?_
              case yv22 =>
                intro w hSw
                try dsimp only at hSw
                go_simp
                try (with_reducible rfl)
              try simp only [Act.put, List.setIfInBounds_toArray, List.set_cons_zero, List.set_cons_succ]
              refine takeOn 26 { dst := some 10, op := Op.assign (Operand.tmp 53), type := 32, pos := "outright.go:81", after := #[{ on := 22, ground := Ground.data }, { on := 25, ground := Ground.chain }, { on := 0, ground := Ground.phase }, { on := 1, ground := Ground.phase }, { on := 2, ground := Ground.phase }, { on := 3, ground := Ground.phase }, { on := 4, ground := Ground.phase }, { on := 5, ground := Ground.phase }, { on := 6, ground := Ground.phase }, { on := 7, ground := Ground.phase }, { on := 8, ground := Ground.phase }, { on := 9, ground := Ground.phase }, { on := 10, ground := Ground.phase }, { on := 11, ground := Ground.phase }, { on := 12, ground := Ground.phase }, { on := 13, ground := Ground.phase }, { on := 14, ground := Ground.phase }, { on := 15, ground := Ground.phase }, { on := 16, ground := Ground.phase }, { on := 17, ground := Ground.phase }, { on := 18, ground := Ground.phase }, { on := 19, ground := Ground.phase }, { on := 20, ground := Ground.phase }, { on := 21, ground := Ground.phase }, { on := 22, ground := Ground.phase }, { on := 23, ground := Ground.phase }, { on := 24, ground := Ground.phase }, { on := 25, ground := Ground.phase }], guard := none } (v := ?v23) rfl (by kernel_rfl) (by kernel_rfl) (by kernel_rfl) (fun _ _ _ h => h) (by rfl) (by assumption) ?yv23 ?_
              case yv23 =>
                intro w hSw
                try dsimp only at hSw
                go_simp
                try (with_reducible rfl)
              try simp only [Act.put, List.setIfInBounds_toArray, List.set_cons_zero, List.set_cons_succ]
              refine wpAnyH_done (by kernel_rfl) ?_ _
              go_wp2
              go_meet
              exact ⟨_, C', D', T', S', rfl, rfl, rfl, Lib.hid kd, Lib.hid od, Lib.hid hL, Lib.hid hG, Lib.hid hT, Lib.hid hoth, Lib.hid bs⟩
        · skip
          have hpl : W0.heap.size ≤ W0.heap.size := bc.size
          obtain ⟨X, hX⟩ : ∃ X, X = W0.alloc (.cells (dcs (fun _ => nilV) (fun _ => nilV)) 28) := ⟨_, rfl⟩
          have eX : W0.alloc (.cells #[.slice none 0 0, .slice none 0 0, .slice none 0 0, .slice none 0 0, .slice none 0 0, .slice none 0 0, .slice none 0 0, .slice none 0 0, .slice none 0 0, .slice none 0 0] 28) = X := hX.symm
          have kX : Blk X W0.heap.size (dcs (fun _ => nilV) (fun _ => nilV)) 28 := by rw [hX]; exact Blk.new _ _ _
          have gX : Below W0.heap.size W0 X := by rw [hX]; exact (Gr.alloc _ _).below
          have bc := bc.trans (gX.mono bc.size)
          clear hX
          go_simp
          clear eX gX
          refine hK.out _ _ ?_ (fun hHeld => ?_)
          · first | exact DC.out _ bc | exact DC.out _ (bdr bc)
          clear hK K
          try simp only [Act.put, List.setIfInBounds_toArray, List.set_cons_zero, List.set_cons_succ]
          refine wpAnyH_ready (rs := [18]) (by kernel_rfl) (by simp) ?_
          refine (AllReadyH.cons (o := { dst := some 50, op := Op.call { callee := Callee.value (Operand.func 26), args := #[Operand.tmp 32, Operand.tmp 33, Operand.tmp 49], argTypes := #[28, 3, 9] }, type := 53, pos := "outright.go:81", after := #[{ on := 0, ground := Ground.data }, { on := 1, ground := Ground.data }, { on := 17, ground := Ground.data }], guard := none }) rfl (fun K hK => ?_) AllReadyH.nil)
          · skip
            go_simp
            (with_reducible refine (F1.out _ (by first | exact bc | exact bdr bc)).mono ?_)
            rintro e wb ⟨C', D', T', S', rfl, hO, hL, hG, hT, hoth, hq, bc⟩
            have kX := kX.later_drew hq
            have hO : DOw 9 3 w.heap.size wb C' D' T' S' := hO
            try (go_wp2_with fail)
            refine hK.out _ _ ?_ (fun hHeld => ?_)
            · first | exact DC.out _ bc | exact DC.out _ (bdr bc)
            clear hK K
            try simp only [Act.put, List.setIfInBounds_toArray, List.set_cons_zero, List.set_cons_succ]
            refine takeOn 19 { dst := some 31, op := Op.move (Operand.tmp 50), type := 53, pos := "outright.go:81", after := #[{ on := 18, ground := Ground.data }], guard := none } (v := ?v24) rfl (by kernel_rfl) (by kernel_rfl) (by kernel_rfl) (fun _ _ _ h => h) (by rfl) (by assumption) ?yv24 ?_
            case yv24 =>
              intro w hSw
              try dsimp only at hSw
              go_simp
              try (with_reducible rfl)
            try simp only [Act.put, List.setIfInBounds_toArray, List.set_cons_zero, List.set_cons_succ]
            refine takeOn 20 { dst := some 51, op := Op.extract (Operand.tmp 31) 0, type := 28, pos := "outright.go:81", after := #[{ on := 19, ground := Ground.data }], guard := none } (v := ?v25) rfl (by kernel_rfl) (by kernel_rfl) (by kernel_rfl) (fun _ _ _ h => h) (by rfl) (by assumption) ?yv25 ?_
            case yv25 =>
              intro w hSw
              try dsimp only at hSw
              go_simp
              try (with_reducible rfl)
            try simp only [Act.put, List.setIfInBounds_toArray, List.set_cons_zero, List.set_cons_succ]
            refine takeOn 21 { dst := some 52, op := Op.extract (Operand.tmp 31) 1, type := 3, pos := "outright.go:81", after := #[{ on := 19, ground := Ground.data }, { on := 24, ground := Ground.gcOnly Departure.lateStores }], guard := none } (v := ?v26) rfl (by kernel_rfl) (by kernel_rfl) (by kernel_rfl) (fun _ _ _ h => h) (by rfl) (by assumption) ?yv26 ?_
            case yv26 =>
              intro w hSw
              try dsimp only at hSw
              go_simp
              try (with_reducible rfl)
            try simp only [Act.put, List.setIfInBounds_toArray, List.set_cons_zero, List.set_cons_succ]
            refine takeOn 22 { dst := some 53, op := Op.extract (Operand.tmp 31) 2, type := 32, pos := "outright.go:81", after := #[{ on := 19, ground := Ground.data }, { on := 25, ground := Ground.gcOnly Departure.lateStores }], guard := none } (v := ?v27) rfl (by kernel_rfl) (by kernel_rfl) (by kernel_rfl) (fun _ _ _ h => h) (by rfl) (by assumption) ?yv27 ?_
            case yv27 =>
              intro w hSw
              try dsimp only at hSw
              go_simp
              try (with_reducible rfl)
            try simp only [Act.put, List.setIfInBounds_toArray, List.set_cons_zero, List.set_cons_succ]
            refine wpAnyH_ready (rs := [24]) (by kernel_rfl) (by simp) ?_
            refine (AllReadyH.cons (o := { dst := none, op := Op.store 28 (Operand.tmp 8) (Operand.tmp 51), type := 0, pos := "outright.go:81", after := #[{ on := 23, ground := Ground.data }, { on := 20, ground := Ground.data }, { on := 18, ground := Ground.chain }, { on := 0, ground := Ground.phase }, { on := 1, ground := Ground.phase }, { on := 2, ground := Ground.phase }, { on := 3, ground := Ground.phase }, { on := 4, ground := Ground.phase }, { on := 5, ground := Ground.phase }, { on := 6, ground := Ground.phase }, { on := 7, ground := Ground.phase }, { on := 8, ground := Ground.phase }, { on := 9, ground := Ground.phase }, { on := 10, ground := Ground.phase }, { on := 11, ground := Ground.phase }, { on := 12, ground := Ground.phase }, { on := 13, ground := Ground.phase }, { on := 14, ground := Ground.phase }, { on := 15, ground := Ground.phase }, { on := 16, ground := Ground.phase }, { on := 17, ground := Ground.phase }, { on := 18, ground := Ground.phase }, { on := 19, ground := Ground.phase }, { on := 20, ground := Ground.phase }, { on := 21, ground := Ground.textOnly Departure.lateStores }, { on := 22, ground := Ground.textOnly Departure.lateStores }, { on := 23, ground := Ground.phase }], guard := none }) rfl (fun K hK => ?_) AllReadyH.nil)
            · skip
              obtain ⟨sa, sb⟩ := hO.slA
              have hsa := fun k w p m => st_slice (P := Try.prog) sa k w p m
              have hsb := fun k w p m => st_slice (P := Try.prog) sb k w p m
              obtain ⟨c0, c1, c2, c3, c4, c5, c6, c7, c8, c9⟩ := dcells kX
              have hfr := fun i => kX.frozen i
              have kd := dsets_blk kX C' D'
              have od := hO.dsets kX (by decide) (by decide) C' D'
              have bs := dsets_below bc hpl C' D'
              go_simp
              clear c0 c1 c2 c3 c4 c5 c6 c7 c8 c9 hfr hsa hsb
              refine hK.out _ _ ?_ (fun hHeld => ?_)
              · exact DC.out _ bs
              clear hK K
              try simp only [Act.put, List.setIfInBounds_toArray, List.set_cons_zero, List.set_cons_succ]
              refine takeOn 25 { dst := some 9, op := Op.assign (Operand.tmp 52), type := 3, pos := "outright.go:81", after := #[{ on := 21, ground := Ground.data }, { on := 24, ground := Ground.chain }, { on := 0, ground := Ground.phase }, { on := 1, ground := Ground.phase }, { on := 2, ground := Ground.phase }, { on := 3, ground := Ground.phase }, { on := 4, ground := Ground.phase }, { on := 5, ground := Ground.phase }, { on := 6, ground := Ground.phase }, { on := 7, ground := Ground.phase }, { on := 8, ground := Ground.phase }, { on := 9, ground := Ground.phase }, { on := 10, ground := Ground.phase }, { on := 11, ground := Ground.phase }, { on := 12, ground := Ground.phase }, { on := 13, ground := Ground.phase }, { on := 14, ground := Ground.phase }, { on := 15, ground := Ground.phase }, { on := 16, ground := Ground.phase }, { on := 17, ground := Ground.phase }, { on := 18, ground := Ground.phase }, { on := 19, ground := Ground.phase }, { on := 20, ground := Ground.phase }, { on := 21, ground := Ground.phase }, { on := 22, ground := Ground.textOnly Departure.lateStores }, { on := 23, ground := Ground.phase }, { on := 24, ground := Ground.phase }], guard := none } (v := ?v28) rfl (by kernel_rfl) (by kernel_rfl) (by kernel_rfl) (fun _ _ _ h => h) (by rfl) (by assumption) ?yv28 ?_
              case yv28 =>
                intro w hSw
                try dsimp only at hSw
                go_simp
                try (with_reducible rfl)
              try simp only [Act.put, List.setIfInBounds_toArray, List.set_cons_zero, List.set_cons_succ]
              refine takeOn 26 { dst := some 10, op := Op.assign (Operand.tmp 53), type := 32, pos := "outright.go:81", after := #[{ on := 22, ground := Ground.data }, { on := 25, ground := Ground.chain }, { on := 0, ground := Ground.phase }, { on := 1, ground := Ground.phase }, { on := 2, ground := Ground.phase }, { on := 3, ground := Ground.phase }, { on := 4, ground := Ground.phase }, { on := 5, ground := Ground.phase }, { on := 6, ground := Ground.phase }, { on := 7, ground := Ground.phase }, { on := 8, ground := Ground.phase }, { on := 9, ground := Ground.phase }, { on := 10, ground := Ground.phase }, { on := 11, ground := Ground.phase }, { on := 12, ground := Ground.phase }, { on := 13, ground := Ground.phase }, { on := 14, ground := Ground.phase }, { on := 15, ground := Ground.phase }, { on := 16, ground := Ground.phase }, { on := 17, ground := Ground.phase }, { on := 18, ground := Ground.phase }, { on := 19, ground := Ground.phase }, { on := 20, ground := Ground.phase }, { on := 21, ground := Ground.phase }, { on := 22, ground := Ground.phase }, { on := 23, ground := Ground.phase }, { on := 24, ground := Ground.phase }, { on := 25, ground := Ground.phase }], guard := none } (v := ?v29) rfl (by kernel_rfl) (by kernel_rfl) (by kernel_rfl) (fun _ _ _ h => h) (by rfl) (by assumption) ?yv29 ?_
              case yv29 =>
                intro w hSw
                try dsimp only at hSw
                go_simp
                try (with_reducible rfl)
              try simp only [Act.put, List.setIfInBounds_toArray, List.set_cons_zero, List.set_cons_succ]
              refine wpAnyH_done (by kernel_rfl) ?_ _
              go_wp2
              go_meet
              exact ⟨_, C', D', T', S', rfl, rfl, rfl, Lib.hid kd, Lib.hid od, Lib.hid hL, Lib.hid hG, Lib.hid hT, Lib.hid hoth, Lib.hid bs⟩
      case rest =>
        obtain ⟨p8, C', D', T', S', rfl, rfl, rfl, K8, O8, L8, G8, TN8, TO8, HB8⟩ := hcut
        obtain ⟨W8, rfl⟩ : ∃ x : World, x = wc := ⟨_, rfl⟩
        have HK8 := Lib.hid (HK.out.later HB8.out)
        have HN := Lib.hid (HK8.out.next O8.out L8.out G8.out TN8.out TO8.out (by decide) (by decide) HP.out)
        have hne : ((k : Int) != (k : Int)) = false := by simp
        have hs := store_dict HK8.out.kp O8.out.slA.1 O8.out.slA.2
        have hl := load_dict K8.out
        have hfr := fun i => HK8.out.kp.frozen i
        obtain ⟨sa, sb⟩ := O8.out.slA
        have hsa := fun k w p m => st_slice (P := Try.prog) sa k w p m
        have hsb := fun k w p m => st_slice (P := Try.prog) sb k w p m
        obtain ⟨c0, c1, c2, c3, c4, c5, c6, c7, c8, c9⟩ := dcells HK8.out.kp
        obtain ⟨d0, d1, d2, d3, d4, d5, d6, d7, d8, d9⟩ := dcells K8.out
        clear HK O8 L8 G8 TN8 TO8 HB8 HK8 K8 sa sb
        go_wp2_with fail
        go_roundw
        case rel => exact ⟨k + 1, C', D', T', S', by omega, by go_num, HN⟩
        case measure => simp [intOf]; omega
    · obtain rfl : k = 128 := by omega
      have ha : ∃ (m : Nat), m < 4 ∧ wrap64 ((IntKind.u64.wrap more).tmod 4) = (m : Int) := by
        obtain ⟨u, hu⟩ : ∃ u, u = IntKind.u64.wrap more := ⟨_, rfl⟩
        have hu0 : 0 ≤ u := by rw [hu, IntKind.wrap_u64]; omega
        rw [← hu, Int.tmod_eq_emod_of_nonneg hu0]
        refine ⟨(u % 4).toNat, by omega, ?_⟩
        have : wrap64 (u % 4) = u % 4 := by unfold wrap64; omega
        rw [this]; omega
      obtain ⟨m, hm4, hm⟩ := ha
      obtain ⟨c0, c1, c2, c3, c4, c5, c6, c7, c8, c9⟩ := dcells HK.out.kp
      go_wp2_with fail
      clear c0 c1 c2 c3 c4 c5 c6 c7 c8 c9
      refine (dput_any C D T S W0 HK.out.ow.sl HK.out.lim (n : Int) ⟨#[111]⟩ (by decide)).mono ?_
      rintro e W1 hP
      obtain ⟨rfl, h1⟩ := fi_full HK.out hn hP
      clear hP
      simp only [dcs, nilV]
      go_upto_region 15 with fail
      obtain ⟨X1, hX1⟩ : ∃ X, X = W1.alloc (.cells #[.slice none 0 0, .slice none 0 0, .slice none 0 0, .slice none 0 0, .slice none 0 0, .slice none 0 0, .slice none 0 0, .slice none 0 0, .slice none 0 0, .slice none 0 0] 28) := ⟨_, rfl⟩
      have g1 : Below W1.heap.size W1 X1 := by rw [hX1]; exact (Gr.alloc _ _).below
      have HK1 := Lib.hid (HK.out.later (h1.trans (g1.mono h1.size)))
      rw [← hX1]
      clear hX1 g1 h1 HK
      obtain ⟨c0, c1, c2, c3, c4, c5, c6, c7, c8, c9⟩ := dcells HK1.out.kp
      go_wp2_with fail
      clear c0 c1 c2 c3 c4 c5 c6 c7 c8 c9
      refine (dput_any C D T S X1 HK1.out.ow.sl HK1.out.lim (n : Int) ⟨#[110, 97, 97]⟩ (by decide)).mono ?_
      rintro e W2 hP
      obtain ⟨C2, D2, rfl, ⟨sa, sb⟩, h2⟩ := fi_again HK1.out hn hP
      clear hP
      have hsa := fun k w p m => st_slice (P := Try.prog) sa k w p m
      have hsb := fun k w p m => st_slice (P := Try.prog) sb k w p m
      obtain ⟨X2', hX2⟩ : ∃ X, X = W2.alloc (.cells (dcs C2 D2) 28) := ⟨_, rfl⟩
      have eX2 : W2.alloc (.cells #[C2 0, D2 0, C2 1, D2 1, C2 2, D2 2, C2 3, D2 3, C2 4, D2 4] 28) = X2' := hX2.symm
      have g2 : Below W2.heap.size W2 X2' := by rw [hX2]; exact (Gr.alloc _ _).below
      have HK2 := Lib.hid (HK1.out.later (h2.trans (g2.mono h2.size)))
      clear hX2 g2 h2 HK1 sa sb
      obtain ⟨c0, c1, c2, c3, c4, c5, c6, c7, c8, c9⟩ := dcells HK2.out.kp
      simp only [dcs]
      go_wp2_with fail
      clear c0 c1 c2 c3 c4 c5 c6 c7 c8 c9 eX2 hsa hsb
      obtain ⟨t, ht5, htn, ht⟩ : ∃ t : Nat, t < 5 ∧ t ≠ n ∧ ((n : Int) + 1 + (m : Int)) % 5 = (t : Int) := ⟨(n + 1 + m) % 5, by omega, by omega, by omega⟩
      rw [ht]
      refine (dput_any C D T S X2' HK2.out.ow.sl HK2.out.lim (t : Int) ⟨#[110, 97, 97]⟩ (by decide)).mono ?_
      rintro e W3 hP
      obtain ⟨C3, D3, T3, S3, rfl, hO, hL, hG, hT, h3⟩ := fi_other HK2.out hn ht5 htn hP
      clear hP ht hm
      obtain ⟨sa, sb⟩ := hO.slA
      have hsa := fun k w p m => st_slice (P := Try.prog) sa k w p m
      have hsb := fun k w p m => st_slice (P := Try.prog) sb k w p m
      obtain ⟨X3, hX3⟩ : ∃ X, X = W3.alloc (.cells (dcs C3 D3) 28) := ⟨_, rfl⟩
      have eX3 : W3.alloc (.cells #[C3 0, D3 0, C3 1, D3 1, C3 2, D3 2, C3 3, D3 3, C3 4, D3 4] 28) = X3 := hX3.symm
      have k3 : Blk X3 W3.heap.size (dcs C3 D3) 28 := by rw [hX3]; exact Blk.new _ _ _
      have g3 : Below W3.heap.size W3 X3 := by rw [hX3]; exact (Gr.alloc _ _).below
      have B3 := Lib.hid (HK2.out.low.trans ((h3.trans (g3.mono h3.size)).mono HK2.out.low.size))
      have O3 := Lib.hid (hO.later g3)
      obtain ⟨c0, c1, c2, c3, c4, c5, c6, c7, c8, c9⟩ := dcells k3
      clear hX3 g3 h3 HK2 sa sb k3 hO
      simp only [dcs]
      go_wp2_with fail
      clear c0 c1 c2 c3 c4 c5 c6 c7 c8 c9 eX3 hsa hsb
      refine (names_any C3 D3 T3 S3 X3 O3.out.sl hL (n : Int) (T3 n) (.inl ⟨hG, n, hn, rfl, rfl⟩)).mono ?_
      rintro e W4 ⟨v, rfl, hv, h4⟩
      obtain ⟨o, c, rfl⟩ := hv.shape
      rw [List.length_map, hT, nmL_len]
      have BB := Lib.hid (B3.out.trans (h4.mono B3.out.size))
      clear hv h4 O3 hL hG hT
      go_wp2
      go_ret
      exact ⟨rfl, BB.out⟩
end Go.Proofs.Ytmghbejbdkoehaa

