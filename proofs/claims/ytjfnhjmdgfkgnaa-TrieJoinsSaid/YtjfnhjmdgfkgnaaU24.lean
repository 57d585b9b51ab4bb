/- The reference of stage 7: Run. -/
import Derived.Test.YtjfnhjmdgfkgnaaU7
namespace Go.Proofs.Ytjfnhjmdgfkgnaa
open Go.RowKit Go.Proofs.Kit
set_option maxRecDepth 100000 in
set_option maxHeartbeats 4000000 in
theorem zrun_any (vb vl : Value) (bs : List Br) (lv : List Int) (w : World) (hb : SegR w vb bs) (hl : Seg .u64 w vl lv) (hlv : lv.length ≤ 10000) (hbs : bs.length ≤ 10000) (hcd : Chd lv.length bs) :
    Calls Try.prog 25 #[.agg #[vb, vl]] w fun e w' => ∃ v', e = .returned v' ∧ OwnP 83 w.heap.size w' v' (prs bs lv) ∧ Below w.heap.size w w' := by
  obtain ⟨i0, hi, hz0, hz1, hz2⟩ := infoP
  obtain ⟨ob, cb, rfl, qb, qb', _⟩ := hb.shape
  obtain ⟨ol, cl, rfl, ql, ql', al⟩ := hl.shape
  obtain ⟨m, hm⟩ : ∃ m, m = bs.length := ⟨_, rfl⟩
  obtain ⟨q, hq⟩ : ∃ q, q = lv.length := ⟨_, rfl⟩
  rw [← hm] at qb hbs hb ⊢
  rw [← hq] at ql hlv hl hcd ⊢
  have HB := Lib.hid hb
  have HA := Lib.hid al
  have HM := Lib.hid hm
  have HQ := Lib.hid hq
  have HCD := Lib.hid hcd
  clear hm hq hb hl hcd al
  go_enter Try.func25, Try.ntmps25
  go_wp2
  obtain ⟨wb, hwb⟩ : ∃ wb, wb = w.alloc (.cells #[.slice ob m cb, .slice ol q cl] 25) := ⟨_, rfl⟩
  have hk : Blk wb w.heap.size #[.slice ob m cb, .slice ol q cl] 25 := by rw [hwb]; exact Blk.new _ _ _
  have hG0 : Gr w wb := by rw [hwb]; exact Gr.alloc _ _
  have hsz : wb.heap.size = w.heap.size + 1 := by rw [hwb]; simp
  rw [← hwb]
  have HSZ := Lib.hid hsz
  have HK := Lib.hid hk
  have HG0 := Lib.hid hG0
  have HB1 := Lib.hid (HB.out.later hG0.below)
  clear hwb hk hG0 hsz
  go_loopw [3, 11] (fun s i wr => ∃ k : Nat, k ≤ m ∧ i = .int .i64 (k : Int) ∧ Hid (OwnP 83 wb.heap.size wr s (prs (bs.take k) lv)) ∧ Below wb.heap.size wb wr) (fun _ i _ => m - (intOf i).toNat)
  case atStart => exact ⟨0, by omega, rfl, Lib.hid (by simpa [prs] using OwnP.nil _ _ _), Below.refl _ _⟩
  case round =>
    obtain ⟨k, hk, rfl, HO, hB⟩ := hrel
    obtain ⟨e0, e1, lt0⟩ := (HK.out.later hB).two
    by_cases hlt : k < m
    · have hkl : k < bs.length := by have := HM.out; omega
      obtain ⟨b, f, rfl, _, _, _, hbl, hcells⟩ := (HB1.out.later hB).has hkl
      obtain ⟨d1, d2, d3⟩ := hcells k hkl
      have hbr := HCD.out.br hkl
      have hsu := prs_take_succ (lv := lv) hkl
      have hpl := prs_len lv (bs.take k)
      have hle : bs.length * lv.length ≤ 10000 * 10000 := Nat.mul_le_mul (by rw [← HM.out]; exact hbs) (by rw [← HQ.out]; exact hlv)
      have hpl2 : (prs (bs.take k) lv).length ≤ 100000000 := Nat.le_trans hpl (Nat.le_trans (Nat.mul_le_mul (by rw [List.length_take]; omega) (Nat.le_refl _)) (Nat.le_trans hle (by decide)))
      obtain ⟨x, hx⟩ : ∃ x, x = bs[k] := ⟨_, rfl⟩
      rw [← hx] at d1 d2 d3 hbr hsu
      clear hx hcells hpl hle
      obtain ⟨x1, x2, x3⟩ := x
      simp only at d1 d2 d3 hbr hsu
      obtain ⟨h0, -, h1, h2⟩ := hbr
      obtain ⟨p, rfl⟩ : ∃ p : Nat, x2 = (p : Int) := ⟨x2.toNat, by omega⟩
      obtain ⟨r, rfl⟩ : ∃ r : Nat, x3 = (r : Int) := ⟨x3.toNat, by omega⟩
      have i0' : p < r := by omega
      have i1 : (p : Int) ≤ (r : Int) := by omega
      have i3 : r ≤ q := by omega
      have i2 : r ≤ cl := by omega
      clear h0 h1 h2
      obtain ⟨lb, lf, rfl, hlb, hlc⟩ := HA.out.resolve_left (fun e => by have := HQ.out; rw [e] at this; simp at this; omega)
      obtain ⟨L, hL⟩ : ∃ L, L = lvs lv (x1, (p : Int), (r : Int)) := ⟨_, rfl⟩
      rw [← hL] at hsu
      have hll : L.length = r - p := by
        have := lvs_len (lv := lv) (b := (x1, (p : Int), (r : Int))) (by simp) (by simpa using i1) (by simp; rw [← HQ.out]; omega)
        rw [← hL] at this
        simp only at this
        omega
      have hLg : ∀ j (h : j < L.length), ∃ h2 : p + j < lv.length, L[j] = lv[p + j] := fun j h => by
        have hq := HQ.out
        refine ⟨by omega, ?_⟩
        subst hL
        simp [lvs]
      have HLG := Lib.hid hLg
      have HLL := Lib.hid hll
      have HSU := Lib.hid hsu
      obtain ⟨M, hM⟩ : ∃ M, M = prs (bs.take k) lv := ⟨_, rfl⟩
      rw [← hM] at HO hpl2 HSU
      have HLC := Lib.hid hlc
      have hlb2 : lb < wb.heap.size := by have := HSZ.out; omega
      clear hL hll hsu hLg hM hlc
      go_wp2
      have b5 : Blk (wr.alloc (.cells #[.int .u64 x1, .int .i64 (p : Int), .int .i64 (r : Int)] 68)) wr.heap.size #[.int .u64 x1, .int .i64 (p : Int), .int .i64 (r : Int)] 68 := Blk.new _ _ _
      have B5 := Lib.hid b5
      have HB5 := Lib.hid (hB.alloc hB.size (.cells #[.int .u64 x1, .int .i64 (p : Int), .int .i64 (r : Int)] 68))
      have HO5 := Lib.hid (HO.out.alloc (.cells #[.int .u64 x1, .int .i64 (p : Int), .int .i64 (r : Int)] 68))
      clear b5 d1 d2 d3 HO
      go_loopw [3, 7, 23] (fun s _ i wy => ∃ j : Nat, j ≤ r - p ∧ i = .int .i64 (j : Int) ∧ Hid (OwnP 83 wb.heap.size wy s (M ++ (L.take j).map fun n => (x1, n))) ∧ Hid (Blk wy wr.heap.size #[.int .u64 x1, .int .i64 (p : Int), .int .i64 (r : Int)] 68) ∧ Hid (Below wb.heap.size wb wy)) (fun _ _ i _ => r - p - (intOf i).toNat)
      case atStart => exact ⟨0, by omega, rfl, Lib.hid (by simpa using HO5.out), B5, HB5⟩
      case round =>
        obtain ⟨j, hj, rfl, HO, HB5, HBY⟩ := hrel
        by_cases hjl : j < r - p
        · have hjL : j < L.length := by have := HLL.out; omega
          obtain ⟨h2, hy⟩ := HLG.out j hjL
          have d1 := (HBY.out.cell (p := ⟨lb, lf + (p + j), none⟩) hlb2).trans ((HG0.out.cell (p := ⟨lb, lf + (p + j), none⟩) hlb).trans (HLC.out (p + j) h2))
          rw [← hy, ← Nat.add_assoc] at d1
          have hlbs : lb < wr.heap.size := Nat.lt_of_lt_of_le hlb2 HBY.out.size
          obtain ⟨y, hyy⟩ : ∃ y, y = L[j] := ⟨_, rfl⟩
          rw [← hyy] at d1
          have HY := Lib.hid hyy
          obtain ⟨e2, _, _, lt5⟩ := HB5.out.c3
          have HO2 := Lib.hid (HO.out.alloc (.cells #[.int .u64 x1, .int .u64 y] 83))
          have HB6 := Lib.hid (HB5.out.alloc (.cells #[.int .u64 x1, .int .u64 y] 83))
          have HSG := Lib.hid (SegP.one (w := wr) (t := 83) x1 y)
          have hml : (M ++ (L.take j).map fun n => (x1, n)).length ≤ 200000000 := by rw [List.length_append, List.length_map, List.length_take]; omega
          have HML := Lib.hid hml
          clear hy hyy hml h2
          go_wp2_with (at_builtin; refine wpList_append_segP rfl _ _ 46 rfl wb.heap.size 83 i0 (.agg #[.int .u64 0, .int .u64 0]) Try.underlying46 hi hz0 hz1 hz2 rfl _ _ rfl HO2.out _ [(x1, y)] rfl HSG.out ?qa ?qb ?_)
          case qa => have := HML.out; simp only [List.length_cons, List.length_nil]; omega
          case qb => have := HBY.out.size; simp; omega
          intro v3 w3 hO3 hb3 hg3 _
          have O3 := Lib.hid hO3
          have B3 := Lib.hid (HB6.out.grown hg3 (HO2.out.ne_blk HB6.out (by decide)))
          have BY3 := Lib.hid ((HBY.out.alloc HBY.out.size (.cells #[.int .u64 x1, .int .u64 y] 83)).trans hb3)
          clear hO3 hb3 hg3
          go_wp2
          go_roundw
          case rel =>
            refine ⟨j + 1, by omega, by go_num, Lib.hid ?_, B3, BY3⟩
            rw [List.take_succ_eq_append_getElem hjL, List.map_append, ← HY.out]
            have h3 := O3.out
            simp only [List.map_take, List.map_cons, List.map_nil] at h3 ⊢
            exact h3
          case measure => simp [intOf]; omega
        · have HOe : Hid (OwnP 83 wb.heap.size wr _ (prs (bs.take (k + 1)) lv)) := Lib.hid (by
            have := HO.out
            rw [List.take_of_length_le (by have := HLL.out; omega), ← HSU.out] at this
            exact this)
          go_wp2
          go_roundw
          case rel => exact ⟨k + 1, by omega, by go_num, HOe, HBY.out⟩
          case measure => simp [intOf]; omega
    · have hO := HO.out
      rw [List.take_of_length_le (by have := HM.out; omega)] at hO
      have HO2 := Lib.hid hO
      clear hO
      go_wp2
      go_ret
      exact ⟨_, rfl, HO2.out.mono (by have := HSZ.out; omega), HG0.out.below.trans (hB.mono (by have := HSZ.out; omega))⟩
end Go.Proofs.Ytjfnhjmdgfkgnaa

