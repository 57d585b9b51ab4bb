/- The reference of stage 7: Keys. -/
import Derived.Test.YtjfnhjmdgfkgnaaU12
import Derived.Test.YtjfnhjmdgfkgnaaU26
import Derived.Test.YtjfnhjmdgfkgnaaU7
namespace Go.Proofs.Ytjfnhjmdgfkgnaa
open Go.RowKit Go.Proofs.Kit
def zk1 (bs : List Br) (lv : List Int) (a : Int) : List Int := bs.flatMap fun b => if b.1 = a then lvs lv b else []
theorem zk1_len (lv : List Int) (a : Int) : ∀ bs : List Br, (zk1 bs lv a).length ≤ bs.length * lv.length
  | [] => by simp [zk1]
  | b :: t => by
    have := zk1_len lv a t
    have h := lvs_le lv b
    simp only [zk1, List.flatMap_cons, List.length_append, List.length_cons, Nat.add_mul] at this ⊢
    split
    · omega
    · simp only [List.length_nil]; omega
theorem zk1_take {bs : List Br} {lv : List Int} {a : Int} {k : Nat} (hk : k < bs.length) : zk1 (bs.take (k + 1)) lv a = zk1 (bs.take k) lv a ++ if bs[k].1 = a then lvs lv bs[k] else [] := by
  unfold zk1
  rw [List.take_succ_eq_append_getElem hk, List.flatMap_append, List.flatMap_cons, List.flatMap_nil, List.append_nil]
set_option maxRecDepth 100000 in
set_option maxHeartbeats 4000000 in
theorem zkeys2 (vb vl : Value) (bs : List Br) (lv : List Int) (op : Option Addr) (np cp : Nat) (w : World) (hb : SegR w vb bs) (hl : Seg .u64 w vl lv) (hbs : bs.length ≤ 10000) (h2 : 2 ≤ np) (h3 : np ≤ 1000000) :
    Calls Try.prog 16 #[.agg #[vb, vl], .slice op np cp] w fun e w' => ∃ v', e = .returned v' ∧ Owns .u64 32 w.heap.size w' v' ([]) ∧ Below w.heap.size w w' := by
  obtain ⟨i0, hi, hz0, hz1, hz2⟩ := infou
  obtain ⟨ob, cb, rfl, qb, qb', -⟩ := hb.shape
  obtain ⟨ol, cl, rfl, ql, ql', -⟩ := hl.shape
  obtain ⟨m, hm⟩ : ∃ m, m = bs.length := ⟨_, rfl⟩
  obtain ⟨q, hq⟩ : ∃ q, q = lv.length := ⟨_, rfl⟩
  rw [← hm] at qb hbs hb ⊢
  rw [← hq] at ql hl ⊢
  have HB := Lib.hid hb
  have HL := Lib.hid hl
  have HM := Lib.hid hm
  have HQ := Lib.hid hq
  have g0 : ((np : Int) == 0) = false := by simp; omega
  have g1 : ((np : Int) == 1) = false := by simp; omega
  clear hm hq hb hl
  go_enter Try.func16, Try.ntmps16
  go_wp2
  obtain ⟨wb, hwb⟩ : ∃ wb, wb = w.alloc (.cells #[.slice ob m cb, .slice ol q cl] 25) := ⟨_, rfl⟩
  have hk : Blk wb w.heap.size #[.slice ob m cb, .slice ol q cl] 25 := by rw [hwb]; exact Blk.new _ _ _
  have hG0 : Gr w wb := by rw [hwb]; exact Gr.alloc _ _
  have hsz : wb.heap.size = w.heap.size + 1 := by rw [hwb]; simp
  rw [← hwb]
  have HSZ := Lib.hid hsz
  have HK := Lib.hid hk
  have HG0 := Lib.hid hG0
  have HB1 := Lib.hid (HB.out.later hG0.below)
  have HL1 := Lib.hid (HL.out.later hG0.below)
  clear hwb hk hG0 hsz
  go_loopw [5, 11] (fun s i wr => ∃ k : Nat, k ≤ m ∧ i = .int .i64 (k : Int) ∧ Hid (Owns .u64 32 wb.heap.size wr s ([])) ∧ Below wb.heap.size wb wr) (fun _ i _ => m - (intOf i).toNat)
  case atStart => exact ⟨0, by omega, rfl, Lib.hid (by simpa [zk1] using Owns.nil _ _ _ _), Below.refl _ _⟩
  case round =>
    obtain ⟨k, hk, rfl, HO, hB⟩ := hrel
    obtain ⟨e0, e1, lt0⟩ := (HK.out.later hB).two
    by_cases hlt : k < m
    · have hkl : k < bs.length := by have := HM.out; omega
      obtain ⟨b, f, rfl, -, -, -, hbl, hcells⟩ := (HB1.out.later hB).has hkl
      obtain ⟨d1, d2, d3⟩ := hcells k hkl
      have hws := hB.size
      obtain ⟨x, hx⟩ : ∃ x, x = bs[k] := ⟨_, rfl⟩
      rw [← hx] at d1 d2 d3
      clear hx hcells
      obtain ⟨x1, x2, x3⟩ := x
      simp only at d1 d2 d3
      have HO2 := Lib.hid ((HO.out.alloc (.cells #[.int .u64 x1, .int .i64 x2, .int .i64 x3] 68)))
      go_wp2
      go_quiet (fail)
      have HO3 := Lib.hid (HO2.out.drewN nq)
      have hB3 := below_drN (hB.alloc hB.size (.cells #[.int .u64 x1, .int .i64 x2, .int .i64 x3] 68)) nq
      go_wp2
      go_roundw
      case rel => exact ⟨k + 1, by omega, by go_num, HO3, hB3⟩
      case measure => simp [intOf]; omega
    · have hO := HO.out
      have HO2 := Lib.hid hO
      clear hO
      go_wp2
      go_ret
      exact ⟨_, rfl, HO2.out.mono (by have := HSZ.out; omega), HG0.out.below.trans (hB.mono (by have := HSZ.out; omega))⟩
set_option maxRecDepth 100000 in
set_option maxHeartbeats 4000000 in
theorem zkeys0 (vb vl : Value) (bs : List Br) (lv : List Int) (op : Option Addr) (cp : Nat) (w : World) (hb : SegR w vb bs) (hl : Seg .u64 w vl lv) (hbs : bs.length ≤ 10000)  :
    Calls Try.prog 16 #[.agg #[vb, vl], .slice op 0 cp] w fun e w' => ∃ v', e = .returned v' ∧ Owns .u64 32 w.heap.size w' v' (bs.map (·.1)) ∧ Below w.heap.size w w' := by
  obtain ⟨i0, hi, hz0, hz1, hz2⟩ := infou
  obtain ⟨ob, cb, rfl, qb, qb', -⟩ := hb.shape
  obtain ⟨ol, cl, rfl, ql, ql', -⟩ := hl.shape
  obtain ⟨m, hm⟩ : ∃ m, m = bs.length := ⟨_, rfl⟩
  obtain ⟨q, hq⟩ : ∃ q, q = lv.length := ⟨_, rfl⟩
  rw [← hm] at qb hbs hb ⊢
  rw [← hq] at ql hl ⊢
  have HB := Lib.hid hb
  have HL := Lib.hid hl
  have HM := Lib.hid hm
  have HQ := Lib.hid hq
  clear hm hq hb hl
  go_enter Try.func16, Try.ntmps16
  go_wp2
  obtain ⟨wb, hwb⟩ : ∃ wb, wb = w.alloc (.cells #[.slice ob m cb, .slice ol q cl] 25) := ⟨_, rfl⟩
  have hk : Blk wb w.heap.size #[.slice ob m cb, .slice ol q cl] 25 := by rw [hwb]; exact Blk.new _ _ _
  have hG0 : Gr w wb := by rw [hwb]; exact Gr.alloc _ _
  have hsz : wb.heap.size = w.heap.size + 1 := by rw [hwb]; simp
  rw [← hwb]
  have HSZ := Lib.hid hsz
  have HK := Lib.hid hk
  have HG0 := Lib.hid hG0
  have HB1 := Lib.hid (HB.out.later hG0.below)
  have HL1 := Lib.hid (HL.out.later hG0.below)
  clear hwb hk hG0 hsz
  go_loopw [5, 11] (fun s i wr => ∃ k : Nat, k ≤ m ∧ i = .int .i64 (k : Int) ∧ Hid (Owns .u64 32 wb.heap.size wr s ((bs.take k).map (·.1))) ∧ Below wb.heap.size wb wr) (fun _ i _ => m - (intOf i).toNat)
  case atStart => exact ⟨0, by omega, rfl, Lib.hid (by simpa [zk1] using Owns.nil _ _ _ _), Below.refl _ _⟩
  case round =>
    obtain ⟨k, hk, rfl, HO, hB⟩ := hrel
    obtain ⟨e0, e1, lt0⟩ := (HK.out.later hB).two
    by_cases hlt : k < m
    · have hkl : k < bs.length := by have := HM.out; omega
      obtain ⟨b, f, rfl, -, -, -, hbl, hcells⟩ := (HB1.out.later hB).has hkl
      obtain ⟨d1, d2, d3⟩ := hcells k hkl
      have hws := hB.size
      have hst : (bs.take (k + 1)).map (·.1) = (bs.take k).map (·.1) ++ [bs[k].1] := by rw [List.take_succ_eq_append_getElem hkl, List.map_append]; rfl
      have hml : ((bs.take k).map (·.1)).length ≤ 10000 := by rw [List.length_map, List.length_take]; omega
      obtain ⟨x, hx⟩ : ∃ x, x = bs[k] := ⟨_, rfl⟩
      rw [← hx] at d1 d2 d3 hst
      clear hx hcells
      obtain ⟨x1, x2, x3⟩ := x
      simp only at d1 d2 d3 hst
      obtain ⟨M, hM⟩ : ∃ M, M = (bs.take k).map (·.1) := ⟨_, rfl⟩
      rw [← hM] at HO hml hst
      have HST := Lib.hid hst
      clear hM hst
      have HO2 := Lib.hid ((HO.out.alloc (.cells #[.int .u64 x1, .int .i64 x2, .int .i64 x3] 68)).alloc (.cells #[.int .u64 x1] 32))
      have HSG := Lib.hid (Seg.one (k := .u64) (w := wr.alloc (.cells #[.int .u64 x1, .int .i64 x2, .int .i64 x3] 68)) (t := 32) x1)
      simp only [World.size_alloc] at HSG
      have HB2 := Lib.hid ((hB.alloc hB.size (.cells #[.int .u64 x1, .int .i64 x2, .int .i64 x3] 68)).alloc (by have := hB.size; simp; omega) (.cells #[.int .u64 x1] 32))
      go_wp2_with (at_builtin; refine wpList_append_seg rfl _ _ 23 rfl .u64 wb.heap.size 32 i0 (.int .u64 0) 8 Try.underlying23 hi hz0 hz1 hz2 rfl _ _ rfl HO2.out _ [x1] rfl HSG.out ?qd ?qe ?qf ?_)
      case qd => simp only [List.length_cons, List.length_nil]; omega
      case qe => simp only [List.length_cons, List.length_nil]; omega
      case qf => simp; omega
      intro v3 w3 hO3 hb3
      have O3 := Lib.hid hO3
      have B3 := Lib.hid (HB2.out.trans hb3)
      clear hO3 hb3
      go_wp2
      go_quiet (fail)
      have O4 := Lib.hid (O3.out.drewN nq)
      have B4 := below_drN B3.out nq
      go_wp2
      go_roundw
      case rel => exact ⟨k + 1, by omega, by go_num, Lib.hid (by rw [HST.out]; exact O4.out), B4⟩
      case measure => simp [intOf]; omega
    · have hO := HO.out
      rw [List.take_of_length_le (by have := HM.out; omega)] at hO
      have HO2 := Lib.hid hO
      clear hO
      go_wp2
      go_ret
      exact ⟨_, rfl, HO2.out.mono (by have := HSZ.out; omega), HG0.out.below.trans (hB.mono (by have := HSZ.out; omega))⟩
set_option maxRecDepth 100000 in
set_option maxHeartbeats 4000000 in
theorem zkeys1 (vb vl : Value) (bs : List Br) (lv : List Int) (ad : Addr) (op : Option Addr) (cp : Nat) (a : Int) (w : World) (hb : SegR w vb bs) (hl : Seg .u64 w vl lv) (hlv : lv.length ≤ 10000) (hbs : bs.length ≤ 10000) (hop : op = some ad) (hp : w.cell? ad = some (.int .u64 a)) (hcd : Chd lv.length bs) :
    Calls Try.prog 16 #[.agg #[vb, vl], .slice op 1 cp] w fun e w' => ∃ v', e = .returned v' ∧ Owns .u64 32 w.heap.size w' v' (zk1 bs lv a) ∧ Below w.heap.size w w' := by
  obtain ⟨i0, hi, hz0, hz1, hz2⟩ := infou
  obtain ⟨ob, cb, rfl, qb, qb', -⟩ := hb.shape
  obtain ⟨ol, cl, rfl, ql, ql', -⟩ := hl.shape
  obtain ⟨m, hm⟩ : ∃ m, m = bs.length := ⟨_, rfl⟩
  obtain ⟨q, hq⟩ : ∃ q, q = lv.length := ⟨_, rfl⟩
  rw [← hm] at qb hbs hb ⊢
  rw [← hq] at ql hlv hl ⊢
  have HB := Lib.hid hb
  have HL := Lib.hid hl
  have HM := Lib.hid hm
  have HQ := Lib.hid hq
  subst hop
  have HCD := Lib.hid hcd
  have HPA := Lib.hid (fun W (g : Below w.heap.size w W) => show W.cell? ad = some (.int .u64 a) ∧ W.cell? (ad.add 0) = some (.int .u64 a) from by
    have h1 := (g.cell (World.block_lt_of_cell? _ _ hp)).trans hp
    exact ⟨h1, by simpa [Addr.add] using h1⟩)
  clear hcd hp
  clear hm hq hb hl
  go_enter Try.func16, Try.ntmps16
  go_wp2
  obtain ⟨wb, hwb⟩ : ∃ wb, wb = w.alloc (.cells #[.slice ob m cb, .slice ol q cl] 25) := ⟨_, rfl⟩
  have hk : Blk wb w.heap.size #[.slice ob m cb, .slice ol q cl] 25 := by rw [hwb]; exact Blk.new _ _ _
  have hG0 : Gr w wb := by rw [hwb]; exact Gr.alloc _ _
  have hsz : wb.heap.size = w.heap.size + 1 := by rw [hwb]; simp
  rw [← hwb]
  have HSZ := Lib.hid hsz
  have HK := Lib.hid hk
  have HG0 := Lib.hid hG0
  have HB1 := Lib.hid (HB.out.later hG0.below)
  have HL1 := Lib.hid (HL.out.later hG0.below)
  clear hwb hk hG0 hsz
  go_loopw [5, 11] (fun s i wr => ∃ k : Nat, k ≤ m ∧ i = .int .i64 (k : Int) ∧ Hid (Owns .u64 32 wb.heap.size wr s (zk1 (bs.take k) lv a)) ∧ Below wb.heap.size wb wr) (fun _ i _ => m - (intOf i).toNat)
  case atStart => exact ⟨0, by omega, rfl, Lib.hid (by simpa [zk1] using Owns.nil _ _ _ _), Below.refl _ _⟩
  case round =>
    obtain ⟨k, hk, rfl, HO, hB⟩ := hrel
    obtain ⟨e0, e1, lt0⟩ := (HK.out.later hB).two
    by_cases hlt : k < m
    · have hkl : k < bs.length := by have := HM.out; omega
      obtain ⟨b, f, rfl, -, -, -, hbl, hcells⟩ := (HB1.out.later hB).has hkl
      obtain ⟨d1, d2, d3⟩ := hcells k hkl
      have hws := hB.size
      have hst := zk1_take (lv := lv) (a := a) hkl
      have hpl := zk1_len lv a (bs.take k)
      have hle : bs.length * lv.length ≤ 10000 * 10000 := Nat.mul_le_mul (by rw [← HM.out]; exact hbs) (by rw [← HQ.out]; exact hlv)
      have hml : (zk1 (bs.take k) lv a).length ≤ 100000000 := Nat.le_trans hpl (Nat.le_trans (Nat.mul_le_mul (by rw [List.length_take]; omega) (Nat.le_refl _)) (Nat.le_trans hle (by decide)))
      have hbr := HCD.out.br hkl
      have PC := HPA.out wr ((HG0.out.below).trans (hB.mono (by have := HSZ.out; omega)))
      obtain ⟨pc0, pc1⟩ := PC
      have hpb := World.block_lt_of_cell? _ _ pc0
      obtain ⟨x, hx⟩ : ∃ x, x = bs[k] := ⟨_, rfl⟩
      rw [← hx] at d1 d2 d3 hst hbr
      clear hx hcells hpl hle
      obtain ⟨x1, x2, x3⟩ := x
      simp only at d1 d2 d3 hst hbr
      obtain ⟨h0, -, h1, h2⟩ := hbr
      obtain ⟨p, rfl⟩ : ∃ p : Nat, x2 = (p : Int) := ⟨x2.toNat, by omega⟩
      obtain ⟨r, rfl⟩ : ∃ r : Nat, x3 = (r : Int) := ⟨x3.toNat, by omega⟩
      have i0' : p < r := by omega
      have i1 : (p : Int) ≤ (r : Int) := by omega
      have i3 : r ≤ q := by have := HQ.out; omega
      have i2 : r ≤ cl := by omega
      clear h0 h1 h2
      obtain ⟨L, hL⟩ : ∃ L, L = lvs lv (x1, (p : Int), (r : Int)) := ⟨_, rfl⟩
      rw [← hL] at hst
      have hll : L.length = r - p := by
        have := lvs_len (lv := lv) (b := (x1, (p : Int), (r : Int))) (by simp) (by simpa using i1) (by simp; rw [← HQ.out]; omega)
        rw [← hL] at this
        simp only at this
        omega
      have hLg : ∀ j (h : j < L.length), ∃ h2 : p + j < lv.length, L[j] = lv[p + j] := fun j h => by
        have hq := HQ.out
        refine ⟨by omega, ?_⟩
        subst hL
        simp [lvs]
      obtain ⟨lb, lf, hol, hlb, hlc⟩ : ∃ lb lf, ol = some ⟨lb, lf, none⟩ ∧ lb < wr.heap.size ∧ ∀ (i : Nat) (h : i < lv.length), wr.cell? ⟨lb, lf + i, none⟩ = some (.int .u64 lv[i]) := by
        rcases (HL1.out.later hB).2 with ⟨_, e2⟩ | ⟨lb, lf, cap, e, _, _, h5, h6⟩
        · exfalso
          have h7 := HQ.out
          rw [e2] at h7
          simp at h7
          omega
        · injection e with a1 _ _
          exact ⟨lb, lf, a1, h5, h6⟩
      subst hol
      obtain ⟨M, hM⟩ : ∃ M, M = zk1 (bs.take k) lv a := ⟨_, rfl⟩
      rw [← hM] at HO hml hst
      have HST := Lib.hid hst
      have HLL := Lib.hid hll
      have HLG := Lib.hid hLg
      have HLC := Lib.hid hlc
      have hBa := hB.alloc hB.size (.cells #[.int .u64 x1, .int .i64 (p : Int), .int .i64 (r : Int)] 68)
      have HO2 := Lib.hid (HO.out.alloc (.cells #[.int .u64 x1, .int .i64 (p : Int), .int .i64 (r : Int)] 68))
      clear hM hst hL hll hLg hlc
      have pc2 := ((Gr.alloc wr (.cells #[.int .u64 x1, .int .i64 (p : Int), .int .i64 (r : Int)] 68)).cell hpb).trans pc0
      clear pc1
      by_cases he : x1 = a
      · have t1 : (x1 == a) = true := by simpa using he
        have HE := Lib.hid he
        clear he
        go_wp2
        go_quiet (fail)
        have HO3 := Lib.hid (HO2.out.drewN nq)
        have HBQ := Lib.hid (below_drN hBa nq)
        have HSG := Lib.hid (show Seg .u64 ((wr.alloc (.cells #[.int .u64 x1, .int .i64 (p : Int), .int .i64 (r : Int)] 68)).drewN nq) (.slice (some ⟨lb, lf + p, none⟩) (r - p) (cl - p)) L from by
          have h63 := HLL.out
          refine ⟨by omega, .inr ⟨lb, lf + p, cl - p, by rw [h63], by omega, by omega, by simp; omega, fun i hi => ?_⟩⟩
          obtain ⟨h2, hy⟩ := HLG.out i hi
          rw [Nat.add_assoc, hy]
          exact ((Gr.drewN _ nq).cell (by simp; omega)).trans (((Gr.alloc wr _).cell hlb).trans (HLC.out (p + i) h2)))
        clear hBa
        go_wp2_with (at_builtin; refine wpList_append_seg rfl _ _ 23 rfl .u64 wb.heap.size 32 i0 (.int .u64 0) 8 Try.underlying23 hi hz0 hz1 hz2 rfl _ _ rfl HO3.out _ L rfl HSG.out ?qd ?qe ?qf ?_)
        case qd => have := HLL.out; omega
        case qe => have := HLL.out; omega
        case qf => simp; omega
        intro v3 w3 hO3 hb3
        have O3 := Lib.hid hO3
        have B3 := Lib.hid (HBQ.out.trans hb3)
        clear hO3 hb3
        go_wp2
        go_roundw
        case rel => exact ⟨k + 1, by omega, by go_num, Lib.hid (by rw [HST.out, if_pos HE.out]; exact O3.out), B3.out⟩
        case measure => simp [intOf]; omega
      · have t1 : (x1 == a) = false := by simpa using he
        have HE := Lib.hid he
        clear he
        go_wp2
        go_quiet (fail)
        have HO3 := Lib.hid (HO2.out.drewN nq)
        have HBQ := Lib.hid (below_drN hBa nq)
        clear hBa
        go_wp2
        go_roundw
        case rel => exact ⟨k + 1, by omega, by go_num, Lib.hid (by rw [HST.out, if_neg HE.out, List.append_nil]; exact HO3.out), HBQ.out⟩
        case measure => simp [intOf]; omega
    · have hO := HO.out
      rw [List.take_of_length_le (by have := HM.out; omega)] at hO
      have HO2 := Lib.hid hO
      clear hO
      go_wp2
      go_ret
      exact ⟨_, rfl, HO2.out.mono (by have := HSZ.out; omega), HG0.out.below.trans (hB.mono (by have := HSZ.out; omega))⟩
end Go.Proofs.Ytjfnhjmdgfkgnaa

