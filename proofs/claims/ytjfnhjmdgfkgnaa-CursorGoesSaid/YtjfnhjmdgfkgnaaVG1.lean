/- Does a cursor stand at a place? -/
import Derived.Test.YtjfnhjmdgfkgnaaU12
import Derived.Test.YtjfnhjmdgfkgnaaU26
import Derived.Test.YtjfnhjmdgfkgnaaU7
import Derived.Test.YtjfnhjmdgfkgnaaU2
import Derived.Test.YtjfnhjmdgfkgnaaU4
import Derived.Test.YtjfnhjmdgfkgnaaV16
import Derived.Test.YtjfnhjmdgfkgnaaVC
import Derived.Deep.RegionHeldLaw
/- The reference of stage 7: Keys. -/
namespace Go.Proofs.Ytjfnhjmdgfkgnaa
open Go.RowKit Go.Proofs.Kit
def zk1 (bs : List Br) (lv : List Int) (a : Int) : List Int := bs.flatMap fun b => if b.1 = a then lvs lv b else []
theorem zk1_len (lv : List Int) (a : Int) : ∀ bs : List Br, (zk1 bs lv a).length ≤ bs.length * lv.length
  | [] => by simp [zk1]
  | b :: t => by
    have := zk1_len lv a t
    have h := lvs_le lv b
    simp only [zk1, List.flatMap_cons, List.length_append, List.length_cons, Nat.add_mul] at this ⊢
    split
    · omega
    · simp only [List.length_nil]; omega
theorem zk1_take {bs : List Br} {lv : List Int} {a : Int} {k : Nat} (hk : k < bs.length) : zk1 (bs.take (k + 1)) lv a = zk1 (bs.take k) lv a ++ if bs[k].1 = a then lvs lv bs[k] else [] := by
  unfold zk1
  rw [List.take_succ_eq_append_getElem hk, List.flatMap_append, List.flatMap_cons, List.flatMap_nil, List.append_nil]
set_option maxRecDepth 100000 in
set_option maxHeartbeats 4000000 in
theorem zkeys2 (vb vl : Value) (bs : List Br) (lv : List Int) (op : Option Addr) (np cp : Nat) (w : World) (hb : SegR w vb bs) (hl : Seg .u64 w vl lv) (hbs : bs.length ≤ 10000) (h2 : 2 ≤ np) (h3 : np ≤ 1000000) :
    Calls Try.prog 16 #[.agg #[vb, vl], .slice op np cp] w fun e w' => ∃ v', e = .returned v' ∧ Owns .u64 32 w.heap.size w' v' ([]) ∧ Below w.heap.size w w' := by
  obtain ⟨i0, hi, hz0, hz1, hz2⟩ := infou
  obtain ⟨ob, cb, rfl, qb, qb', -⟩ := hb.shape
  obtain ⟨ol, cl, rfl, ql, ql', -⟩ := hl.shape
  obtain ⟨m, hm⟩ : ∃ m, m = bs.length := ⟨_, rfl⟩
  obtain ⟨q, hq⟩ : ∃ q, q = lv.length := ⟨_, rfl⟩
  rw [← hm] at qb hbs hb ⊢
  rw [← hq] at ql hl ⊢
  have HB := Lib.hid hb
  have HL := Lib.hid hl
  have HM := Lib.hid hm
  have HQ := Lib.hid hq
  have g0 : ((np : Int) == 0) = false := by simp; omega
  have g1 : ((np : Int) == 1) = false := by simp; omega
  clear hm hq hb hl
  go_enter Try.func16, Try.ntmps16
  go_wp2
  obtain ⟨wb, hwb⟩ : ∃ wb, wb = w.alloc (.cells #[.slice ob m cb, .slice ol q cl] 25) := ⟨_, rfl⟩
  have hk : Blk wb w.heap.size #[.slice ob m cb, .slice ol q cl] 25 := by rw [hwb]; exact Blk.new _ _ _
  have hG0 : Gr w wb := by rw [hwb]; exact Gr.alloc _ _
  have hsz : wb.heap.size = w.heap.size + 1 := by rw [hwb]; simp
  rw [← hwb]
  have HSZ := Lib.hid hsz
  have HK := Lib.hid hk
  have HG0 := Lib.hid hG0
  have HB1 := Lib.hid (HB.out.later hG0.below)
  have HL1 := Lib.hid (HL.out.later hG0.below)
  clear hwb hk hG0 hsz
  go_loopw [5, 11] (fun s i wr => ∃ k : Nat, k ≤ m ∧ i = .int .i64 (k : Int) ∧ Hid (Owns .u64 32 wb.heap.size wr s ([])) ∧ Below wb.heap.size wb wr) (fun _ i _ => m - (intOf i).toNat)
  case atStart => exact ⟨0, by omega, rfl, Lib.hid (by simpa [zk1] using Owns.nil _ _ _ _), Below.refl _ _⟩
  case round =>
    obtain ⟨k, hk, rfl, HO, hB⟩ := hrel
    obtain ⟨e0, e1, lt0⟩ := (HK.out.later hB).two
    by_cases hlt : k < m
    · have hkl : k < bs.length := by have := HM.out; omega
      obtain ⟨b, f, rfl, -, -, -, hbl, hcells⟩ := (HB1.out.later hB).has hkl
      obtain ⟨d1, d2, d3⟩ := hcells k hkl
      have hws := hB.size
      obtain ⟨x, hx⟩ : ∃ x, x = bs[k] := ⟨_, rfl⟩
      rw [← hx] at d1 d2 d3
      clear hx hcells
      obtain ⟨x1, x2, x3⟩ := x
      simp only at d1 d2 d3
      have HO2 := Lib.hid ((HO.out.alloc (.cells #[.int .u64 x1, .int .i64 x2, .int .i64 x3] 68)))
      go_wp2
      go_quiet (fail)
      have HO3 := Lib.hid (HO2.out.drewN nq)
      have hB3 := below_drN (hB.alloc hB.size (.cells #[.int .u64 x1, .int .i64 x2, .int .i64 x3] 68)) nq
      go_wp2
      go_roundw
      case rel => exact ⟨k + 1, by omega, by go_num, HO3, hB3⟩
      case measure => simp [intOf]; omega
    · have hO := HO.out
      have HO2 := Lib.hid hO
      clear hO
      go_wp2
      go_ret
      exact ⟨_, rfl, HO2.out.mono (by have := HSZ.out; omega), HG0.out.below.trans (hB.mono (by have := HSZ.out; omega))⟩
set_option maxRecDepth 100000 in
set_option maxHeartbeats 4000000 in
theorem zkeys0 (vb vl : Value) (bs : List Br) (lv : List Int) (op : Option Addr) (cp : Nat) (w : World) (hb : SegR w vb bs) (hl : Seg .u64 w vl lv) (hbs : bs.length ≤ 10000)  :
    Calls Try.prog 16 #[.agg #[vb, vl], .slice op 0 cp] w fun e w' => ∃ v', e = .returned v' ∧ Owns .u64 32 w.heap.size w' v' (bs.map (·.1)) ∧ Below w.heap.size w w' := by
  obtain ⟨i0, hi, hz0, hz1, hz2⟩ := infou
  obtain ⟨ob, cb, rfl, qb, qb', -⟩ := hb.shape
  obtain ⟨ol, cl, rfl, ql, ql', -⟩ := hl.shape
  obtain ⟨m, hm⟩ : ∃ m, m = bs.length := ⟨_, rfl⟩
  obtain ⟨q, hq⟩ : ∃ q, q = lv.length := ⟨_, rfl⟩
  rw [← hm] at qb hbs hb ⊢
  rw [← hq] at ql hl ⊢
  have HB := Lib.hid hb
  have HL := Lib.hid hl
  have HM := Lib.hid hm
  have HQ := Lib.hid hq
  clear hm hq hb hl
  go_enter Try.func16, Try.ntmps16
  go_wp2
  obtain ⟨wb, hwb⟩ : ∃ wb, wb = w.alloc (.cells #[.slice ob m cb, .slice ol q cl] 25) := ⟨_, rfl⟩
  have hk : Blk wb w.heap.size #[.slice ob m cb, .slice ol q cl] 25 := by rw [hwb]; exact Blk.new _ _ _
  have hG0 : Gr w wb := by rw [hwb]; exact Gr.alloc _ _
  have hsz : wb.heap.size = w.heap.size + 1 := by rw [hwb]; simp
  rw [← hwb]
  have HSZ := Lib.hid hsz
  have HK := Lib.hid hk
  have HG0 := Lib.hid hG0
  have HB1 := Lib.hid (HB.out.later hG0.below)
  have HL1 := Lib.hid (HL.out.later hG0.below)
  clear hwb hk hG0 hsz
  go_loopw [5, 11] (fun s i wr => ∃ k : Nat, k ≤ m ∧ i = .int .i64 (k : Int) ∧ Hid (Owns .u64 32 wb.heap.size wr s ((bs.take k).map (·.1))) ∧ Below wb.heap.size wb wr) (fun _ i _ => m - (intOf i).toNat)
  case atStart => exact ⟨0, by omega, rfl, Lib.hid (by simpa [zk1] using Owns.nil _ _ _ _), Below.refl _ _⟩
  case round =>
    obtain ⟨k, hk, rfl, HO, hB⟩ := hrel
    obtain ⟨e0, e1, lt0⟩ := (HK.out.later hB).two
    by_cases hlt : k < m
    · have hkl : k < bs.length := by have := HM.out; omega
      obtain ⟨b, f, rfl, -, -, -, hbl, hcells⟩ := (HB1.out.later hB).has hkl
      obtain ⟨d1, d2, d3⟩ := hcells k hkl
      have hws := hB.size
      have hst : (bs.take (k + 1)).map (·.1) = (bs.take k).map (·.1) ++ [bs[k].1] := by rw [List.take_succ_eq_append_getElem hkl, List.map_append]; rfl
      have hml : ((bs.take k).map (·.1)).length ≤ 10000 := by rw [List.length_map, List.length_take]; omega
      obtain ⟨x, hx⟩ : ∃ x, x = bs[k] := ⟨_, rfl⟩
      rw [← hx] at d1 d2 d3 hst
      clear hx hcells
      obtain ⟨x1, x2, x3⟩ := x
      simp only at d1 d2 d3 hst
      obtain ⟨M, hM⟩ : ∃ M, M = (bs.take k).map (·.1) := ⟨_, rfl⟩
      rw [← hM] at HO hml hst
      have HST := Lib.hid hst
      clear hM hst
      have HO2 := Lib.hid ((HO.out.alloc (.cells #[.int .u64 x1, .int .i64 x2, .int .i64 x3] 68)).alloc (.cells #[.int .u64 x1] 32))
      have HSG := Lib.hid (Seg.one (k := .u64) (w := wr.alloc (.cells #[.int .u64 x1, .int .i64 x2, .int .i64 x3] 68)) (t := 32) x1)
      simp only [World.size_alloc] at HSG
      have HB2 := Lib.hid ((hB.alloc hB.size (.cells #[.int .u64 x1, .int .i64 x2, .int .i64 x3] 68)).alloc (by have := hB.size; simp; omega) (.cells #[.int .u64 x1] 32))
      go_wp2_with (at_builtin; refine wpList_append_seg rfl _ _ 23 rfl .u64 wb.heap.size 32 i0 (.int .u64 0) 8 Try.underlying23 hi hz0 hz1 hz2 rfl _ _ rfl HO2.out _ [x1] rfl HSG.out ?qd ?qe ?qf ?_)
      case qd => simp only [List.length_cons, List.length_nil]; omega
      case qe => simp only [List.length_cons, List.length_nil]; omega
      case qf => simp; omega
      intro v3 w3 hO3 hb3
      have O3 := Lib.hid hO3
      have B3 := Lib.hid (HB2.out.trans hb3)
      clear hO3 hb3
      go_wp2
      go_quiet (fail)
      have O4 := Lib.hid (O3.out.drewN nq)
      have B4 := below_drN B3.out nq
      go_wp2
      go_roundw
      case rel => exact ⟨k + 1, by omega, by go_num, Lib.hid (by rw [HST.out]; exact O4.out), B4⟩
      case measure => simp [intOf]; omega
    · have hO := HO.out
      rw [List.take_of_length_le (by have := HM.out; omega)] at hO
      have HO2 := Lib.hid hO
      clear hO
      go_wp2
      go_ret
      exact ⟨_, rfl, HO2.out.mono (by have := HSZ.out; omega), HG0.out.below.trans (hB.mono (by have := HSZ.out; omega))⟩
set_option maxRecDepth 100000 in
set_option maxHeartbeats 4000000 in
theorem zkeys1 (vb vl : Value) (bs : List Br) (lv : List Int) (ad : Addr) (op : Option Addr) (cp : Nat) (a : Int) (w : World) (hb : SegR w vb bs) (hl : Seg .u64 w vl lv) (hlv : lv.length ≤ 10000) (hbs : bs.length ≤ 10000) (hop : op = some ad) (hp : w.cell? ad = some (.int .u64 a)) (hcd : Chd lv.length bs) :
    Calls Try.prog 16 #[.agg #[vb, vl], .slice op 1 cp] w fun e w' => ∃ v', e = .returned v' ∧ Owns .u64 32 w.heap.size w' v' (zk1 bs lv a) ∧ Below w.heap.size w w' := by
  obtain ⟨i0, hi, hz0, hz1, hz2⟩ := infou
  obtain ⟨ob, cb, rfl, qb, qb', -⟩ := hb.shape
  obtain ⟨ol, cl, rfl, ql, ql', -⟩ := hl.shape
  obtain ⟨m, hm⟩ : ∃ m, m = bs.length := ⟨_, rfl⟩
  obtain ⟨q, hq⟩ : ∃ q, q = lv.length := ⟨_, rfl⟩
  rw [← hm] at qb hbs hb ⊢
  rw [← hq] at ql hlv hl ⊢
  have HB := Lib.hid hb
  have HL := Lib.hid hl
  have HM := Lib.hid hm
  have HQ := Lib.hid hq
  subst hop
  have HCD := Lib.hid hcd
  have HPA := Lib.hid (fun W (g : Below w.heap.size w W) => show W.cell? ad = some (.int .u64 a) ∧ W.cell? (ad.add 0) = some (.int .u64 a) from by
    have h1 := (g.cell (World.block_lt_of_cell? _ _ hp)).trans hp
    exact ⟨h1, by simpa [Addr.add] using h1⟩)
  clear hcd hp
  clear hm hq hb hl
  go_enter Try.func16, Try.ntmps16
  go_wp2
  obtain ⟨wb, hwb⟩ : ∃ wb, wb = w.alloc (.cells #[.slice ob m cb, .slice ol q cl] 25) := ⟨_, rfl⟩
  have hk : Blk wb w.heap.size #[.slice ob m cb, .slice ol q cl] 25 := by rw [hwb]; exact Blk.new _ _ _
  have hG0 : Gr w wb := by rw [hwb]; exact Gr.alloc _ _
  have hsz : wb.heap.size = w.heap.size + 1 := by rw [hwb]; simp
  rw [← hwb]
  have HSZ := Lib.hid hsz
  have HK := Lib.hid hk
  have HG0 := Lib.hid hG0
  have HB1 := Lib.hid (HB.out.later hG0.below)
  have HL1 := Lib.hid (HL.out.later hG0.below)
  clear hwb hk hG0 hsz
  go_loopw [5, 11] (fun s i wr => ∃ k : Nat, k ≤ m ∧ i = .int .i64 (k : Int) ∧ Hid (Owns .u64 32 wb.heap.size wr s (zk1 (bs.take k) lv a)) ∧ Below wb.heap.size wb wr) (fun _ i _ => m - (intOf i).toNat)
  case atStart => exact ⟨0, by omega, rfl, Lib.hid (by simpa [zk1] using Owns.nil _ _ _ _), Below.refl _ _⟩
  case round =>
    obtain ⟨k, hk, rfl, HO, hB⟩ := hrel
    obtain ⟨e0, e1, lt0⟩ := (HK.out.later hB).two
    by_cases hlt : k < m
    · have hkl : k < bs.length := by have := HM.out; omega
      obtain ⟨b, f, rfl, -, -, -, hbl, hcells⟩ := (HB1.out.later hB).has hkl
      obtain ⟨d1, d2, d3⟩ := hcells k hkl
      have hws := hB.size
      have hst := zk1_take (lv := lv) (a := a) hkl
      have hpl := zk1_len lv a (bs.take k)
      have hle : bs.length * lv.length ≤ 10000 * 10000 := Nat.mul_le_mul (by rw [← HM.out]; exact hbs) (by rw [← HQ.out]; exact hlv)
      have hml : (zk1 (bs.take k) lv a).length ≤ 100000000 := Nat.le_trans hpl (Nat.le_trans (Nat.mul_le_mul (by rw [List.length_take]; omega) (Nat.le_refl _)) (Nat.le_trans hle (by decide)))
      have hbr := HCD.out.br hkl
      have PC := HPA.out wr ((HG0.out.below).trans (hB.mono (by have := HSZ.out; omega)))
      obtain ⟨pc0, pc1⟩ := PC
      have hpb := World.block_lt_of_cell? _ _ pc0
      obtain ⟨x, hx⟩ : ∃ x, x = bs[k] := ⟨_, rfl⟩
      rw [← hx] at d1 d2 d3 hst hbr
      clear hx hcells hpl hle
      obtain ⟨x1, x2, x3⟩ := x
      simp only at d1 d2 d3 hst hbr
      obtain ⟨h0, -, h1, h2⟩ := hbr
      obtain ⟨p, rfl⟩ : ∃ p : Nat, x2 = (p : Int) := ⟨x2.toNat, by omega⟩
      obtain ⟨r, rfl⟩ : ∃ r : Nat, x3 = (r : Int) := ⟨x3.toNat, by omega⟩
      have i0' : p < r := by omega
      have i1 : (p : Int) ≤ (r : Int) := by omega
      have i3 : r ≤ q := by have := HQ.out; omega
      have i2 : r ≤ cl := by omega
      clear h0 h1 h2
      obtain ⟨L, hL⟩ : ∃ L, L = lvs lv (x1, (p : Int), (r : Int)) := ⟨_, rfl⟩
      rw [← hL] at hst
      have hll : L.length = r - p := by
        have := lvs_len (lv := lv) (b := (x1, (p : Int), (r : Int))) (by simp) (by simpa using i1) (by simp; rw [← HQ.out]; omega)
        rw [← hL] at this
        simp only at this
        omega
      have hLg : ∀ j (h : j < L.length), ∃ h2 : p + j < lv.length, L[j] = lv[p + j] := fun j h => by
        have hq := HQ.out
        refine ⟨by omega, ?_⟩
        subst hL
        simp [lvs]
      obtain ⟨lb, lf, hol, hlb, hlc⟩ : ∃ lb lf, ol = some ⟨lb, lf, none⟩ ∧ lb < wr.heap.size ∧ ∀ (i : Nat) (h : i < lv.length), wr.cell? ⟨lb, lf + i, none⟩ = some (.int .u64 lv[i]) := by
        rcases (HL1.out.later hB).2 with ⟨_, e2⟩ | ⟨lb, lf, cap, e, _, _, h5, h6⟩
        · exfalso
          have h7 := HQ.out
          rw [e2] at h7
          simp at h7
          omega
        · injection e with a1 _ _
          exact ⟨lb, lf, a1, h5, h6⟩
      subst hol
      obtain ⟨M, hM⟩ : ∃ M, M = zk1 (bs.take k) lv a := ⟨_, rfl⟩
      rw [← hM] at HO hml hst
      have HST := Lib.hid hst
      have HLL := Lib.hid hll
      have HLG := Lib.hid hLg
      have HLC := Lib.hid hlc
      have hBa := hB.alloc hB.size (.cells #[.int .u64 x1, .int .i64 (p : Int), .int .i64 (r : Int)] 68)
      have HO2 := Lib.hid (HO.out.alloc (.cells #[.int .u64 x1, .int .i64 (p : Int), .int .i64 (r : Int)] 68))
      clear hM hst hL hll hLg hlc
      have pc2 := ((Gr.alloc wr (.cells #[.int .u64 x1, .int .i64 (p : Int), .int .i64 (r : Int)] 68)).cell hpb).trans pc0
      clear pc1
      by_cases he : x1 = a
      · have t1 : (x1 == a) = true := by simpa using he
        have HE := Lib.hid he
        clear he
        go_wp2
        go_quiet (fail)
        have HO3 := Lib.hid (HO2.out.drewN nq)
        have HBQ := Lib.hid (below_drN hBa nq)
        have HSG := Lib.hid (show Seg .u64 ((wr.alloc (.cells #[.int .u64 x1, .int .i64 (p : Int), .int .i64 (r : Int)] 68)).drewN nq) (.slice (some ⟨lb, lf + p, none⟩) (r - p) (cl - p)) L from by
          have h63 := HLL.out
          refine ⟨by omega, .inr ⟨lb, lf + p, cl - p, by rw [h63], by omega, by omega, by simp; omega, fun i hi => ?_⟩⟩
          obtain ⟨h2, hy⟩ := HLG.out i hi
          rw [Nat.add_assoc, hy]
          exact ((Gr.drewN _ nq).cell (by simp; omega)).trans (((Gr.alloc wr _).cell hlb).trans (HLC.out (p + i) h2)))
        clear hBa
        go_wp2_with (at_builtin; refine wpList_append_seg rfl _ _ 23 rfl .u64 wb.heap.size 32 i0 (.int .u64 0) 8 Try.underlying23 hi hz0 hz1 hz2 rfl _ _ rfl HO3.out _ L rfl HSG.out ?qd ?qe ?qf ?_)
        case qd => have := HLL.out; omega
        case qe => have := HLL.out; omega
        case qf => simp; omega
        intro v3 w3 hO3 hb3
        have O3 := Lib.hid hO3
        have B3 := Lib.hid (HBQ.out.trans hb3)
        clear hO3 hb3
        go_wp2
        go_roundw
        case rel => exact ⟨k + 1, by omega, by go_num, Lib.hid (by rw [HST.out, if_pos HE.out]; exact O3.out), B3.out⟩
        case measure => simp [intOf]; omega
      · have t1 : (x1 == a) = false := by simpa using he
        have HE := Lib.hid he
        clear he
        go_wp2
        go_quiet (fail)
        have HO3 := Lib.hid (HO2.out.drewN nq)
        have HBQ := Lib.hid (below_drN hBa nq)
        clear hBa
        go_wp2
        go_roundw
        case rel => exact ⟨k + 1, by omega, by go_num, Lib.hid (by rw [HST.out, if_neg HE.out, List.append_nil]; exact HO3.out), HBQ.out⟩
        case measure => simp [intOf]; omega
    · have hO := HO.out
      rw [List.take_of_length_le (by have := HM.out; omega)] at hO
      have HO2 := Lib.hid hO
      clear hO
      go_wp2
      go_ret
      exact ⟨_, rfl, HO2.out.mono (by have := HSZ.out; omega), HG0.out.below.trans (hB.mono (by have := HSZ.out; omega))⟩
end Go.Proofs.Ytjfnhjmdgfkgnaa


/- The reference of stage 7: Right. -/
namespace Go.Proofs.Ytjfnhjmdgfkgnaa
open Go.RowKit Go.Proofs.Kit
set_option maxRecDepth 100000 in
set_option maxHeartbeats 8000000 in
theorem zright_any (vb vl : Value) (bs : List Br) (lv : List Int) (w : World) (hb : SegR w vb bs) (hl : Seg .u64 w vl lv) (hlv : lv.length ≤ 1000000000) (hbs : bs.length ≤ 1000000000) :
    Calls Try.prog 13 #[.agg #[vb, vl]] w fun e w' => e = .returned (.bool (decide (ok7 bs lv))) ∧ Gr w w' := by
  obtain ⟨ob, cb, rfl, qb, qb', ab⟩ := hb.shape
  obtain ⟨ol, cl, rfl, ql, ql', al⟩ := hl.shape
  obtain ⟨m, hm⟩ : ∃ m, m = bs.length := ⟨_, rfl⟩
  obtain ⟨n, hn⟩ : ∃ n, n = lv.length := ⟨_, rfl⟩
  obtain ⟨R, hR⟩ : ∃ R, R = decide (ok7 bs lv) := ⟨_, rfl⟩
  rw [← hm] at qb hbs hb ⊢
  rw [← hn] at ql hlv hl ⊢
  rw [← hR]
  have HNL := Lib.hid (fun k (hk : k < bs.length) (h : ¬ Lnk n bs k) => show R = false by
    rw [hR, decide_eq_false_iff_not]
    exact fun hc => h (by rw [hn]; exact hc.2.1.1 k hk))
  have HNR := Lib.hid (fun k (hk : k < bs.length) (h : ¬ Rises (lvs lv bs[k])) => show R = false by
    rw [hR, decide_eq_false_iff_not]
    exact fun hc => h (hc.2.2 _ (List.getElem_mem hk)))
  have HEN := Lib.hid (fun (h : ¬ (endAt bs m = (n : Int) ∧ endAt bs m ≤ 1048576)) => show R = false by
    rw [hR, decide_eq_false_iff_not]
    intro hc
    have h1 := hc.2.1.2
    have h2 := hc.1
    rw [← hm, ← hn] at h1
    rw [← hn] at h2
    exact h ⟨h1, by omega⟩)
  have HYE := Lib.hid (fun (h1 : ∀ k, k < m → Lnk n bs k) (h2 : ∀ k (h : k < bs.length), k < m → Rises (lvs lv bs[k])) (h3 : endAt bs m = (n : Int)) (h4 : endAt bs m ≤ 1048576) => show R = true by
    rw [hR, decide_eq_true_iff]
    refine ⟨by omega, ⟨fun i hi => ?_, ?_⟩, fun x hx => ?_⟩
    · rw [← hn]; exact h1 i (by omega)
    · rw [← hm, ← hn]; exact h3
    · obtain ⟨i, hi, rfl⟩ := List.getElem_of_mem hx
      exact h2 i hi (by omega))
  have HB := Lib.hid hb
  have HA := Lib.hid al
  have HM := Lib.hid hm
  have HN := Lib.hid hn
  clear hm hn hb hl al ab hR
  have hmix := mixed
  go_enter Try.func13, Try.ntmps13
  go_wp2
  obtain ⟨wb, hwb⟩ : ∃ wb, wb = w.alloc (.cells #[.slice ob m cb, .slice ol n cl] 25) := ⟨_, rfl⟩
  have hk : Blk wb w.heap.size #[.slice ob m cb, .slice ol n cl] 25 := by rw [hwb]; exact Blk.new _ _ _
  have hG0 : Gr w wb := by rw [hwb]; exact Gr.alloc _ _
  rw [← hwb]
  have HK := Lib.hid hk
  have HG0 := Lib.hid hG0
  have HB1 := Lib.hid (HB.out.later hG0.below)
  clear hwb hk hG0
  go_loopw [3, 10] (fun e i wr => ∃ k : Nat, k ≤ m ∧ i = .int .i64 (k : Int) ∧ e = .int .i64 (endAt bs k) ∧ Hid (∀ j, j < k → Lnk n bs j) ∧ Hid (∀ j (h : j < bs.length), j < k → Rises (lvs lv bs[j])) ∧ Gr wb wr) (fun _ i _ => m - (intOf i).toNat)
  case atStart => exact ⟨0, by omega, rfl, rfl, Lib.hid (by simp), Lib.hid (fun _ _ h => by omega), Gr.refl _⟩
  case round =>
    obtain ⟨k, hk, rfl, rfl, HJ, HRS, hG⟩ := hrel
    obtain ⟨e0, e1, lt0⟩ := (HK.out.later hG.below).two
    by_cases hlt : k < m
    · have hkl : k < bs.length := by have := HM.out; omega
      obtain ⟨b, f, rfl, -, -, -, hbl, hcells⟩ := (HB1.out.later hG.below).has hkl
      obtain ⟨d1, d2, d3⟩ := hcells k hkl
      have eL : Lnk n bs k ↔ (0 < k → (bs.getD (k - 1) (0, 0, 0)).1 < (bs.getD k (0, 0, 0)).1) ∧ (bs.getD k (0, 0, 0)).2.1 = endAt bs k ∧ (bs.getD k (0, 0, 0)).2.1 < (bs.getD k (0, 0, 0)).2.2 ∧ (bs.getD k (0, 0, 0)).2.2 ≤ n := Iff.rfl
      have eN : endAt bs (k + 1) = (bs.getD k (0, 0, 0)).2.2 := rfl
      have eK := getD_of hkl
      rw [eK] at eL eN
      obtain ⟨u, hu⟩ : ∃ u, u = k - 1 := ⟨_, rfl⟩
      rw [← hu] at eL
      have d4 : 0 < k → wr.cell? ⟨b, f + u * 3, none⟩ = some (.int .u64 (bs.getD u (0, 0, 0)).1) := fun h0 => by
        have := (hcells u (by omega)).1
        rwa [getD_of (show u < bs.length by omega)]
      obtain ⟨p1, hp1⟩ : ∃ p1, p1 = (bs.getD u (0, 0, 0)).1 := ⟨_, rfl⟩
      rw [← hp1] at eL d4
      have HNLk := Lib.hid (HNL.out k hkl)
      have HNRk := Lib.hid (HNR.out k hkl)
      have HRR : Hid (Rises (lvs lv bs[k]) → ∀ j (h : j < bs.length), j < k + 1 → Rises (lvs lv bs[j])) := Lib.hid (fun hr j h hjk => by
        by_cases e : j = k
        · subst e; exact hr
        · exact HRS.out j h (by omega))
      obtain ⟨x, hx⟩ : ∃ x, x = bs[k] := ⟨_, rfl⟩
      rw [← hx] at eL eN d1 d2 d3 HNRk HRR
      obtain ⟨x1, x2, x3⟩ := x
      simp only at eL eN d1 d2 d3
      obtain ⟨E, hE⟩ : ∃ E, E = endAt bs k := ⟨_, rfl⟩
      have hE0 : Hid (Lnk n bs k → 0 ≤ x2) := Lib.hid (fun h => by
        have h2 := (eL.1 h).2.1
        rw [h2]
        cases k with
        | zero => simp [endAt]
        | succ k =>
          have h3 := HJ.out k (by omega)
          have : ∀ j, j ≤ k + 1 → 0 ≤ endAt bs j := fun j => by
            induction j with
            | zero => intro _; simp [endAt]
            | succ j ih =>
              intro hj
              have h4 := HJ.out j (by omega)
              unfold Lnk at h4
              have := ih (by omega)
              simp only [endAt]
              omega
          exact this _ (Nat.le_refl _))
      rw [← hE] at eL ⊢
      have HL := Lib.hid eL
      have HN1 := Lib.hid eN
      have D4 := Lib.hid d4
      have HU := Lib.hid hu
      clear eL eN hx hp1 hE eK hcells d4 hu
      have hT : (E ≠ x2 ∧ ¬ Lnk n bs k) ∨ ((x2 != E) = false ∧ decide (x3 ≤ x2) = true ∧ ¬ Lnk n bs k) ∨ ((x2 != E) = false ∧ decide (x3 ≤ x2) = false ∧ decide ((n : Int) < x3) = true ∧ ¬ Lnk n bs k) ∨
          ((x2 != E) = false ∧ decide (x3 ≤ x2) = false ∧ decide ((n : Int) < x3) = false ∧ ((0 < k → p1 < x1) → Lnk n bs k)) := by
        have := HL.out
        by_cases c2 : x2 = E
        · by_cases c3 : x3 ≤ x2
          · exact .inr (.inl ⟨by simpa using c2, by simpa using c3, by rw [this]; omega⟩)
          · by_cases c4 : (n : Int) < x3
            · exact .inr (.inr (.inl ⟨by simpa using c2, by simp; omega, by simpa using c4, by rw [this]; omega⟩))
            · exact .inr (.inr (.inr ⟨by simpa using c2, by simp; omega, by simp; omega, by rw [this]; omega⟩))
        · exact .inl ⟨fun e => c2 e.symm, by rw [this]; omega⟩
      have hG0 := HG0.out.trans hG
      have g1 : (k : Int) < (m : Int) := by omega
      go_wp2
      obtain ⟨Wb, hWb⟩ : ∃ Wb, Wb = wr.alloc (.cells #[.int .u64 x1, .int .i64 x2, .int .i64 x3] 68) := ⟨_, rfl⟩
      have gW : Gr wr Wb := by rw [hWb]; exact Gr.alloc _ _
      have b5 : Blk Wb wr.heap.size #[.int .u64 x1, .int .i64 x2, .int .i64 x3] 68 := by rw [hWb]; exact Blk.new _ _ _
      rw [← hWb]
      clear hWb d1 d2 d3
      have B5 := Lib.hid b5
      obtain ⟨c50, c51, c52, lt5⟩ := b5.c3
      have b1 := ((HK.out.later hG.below).later gW.below)
      have B1 := Lib.hid b1
      obtain ⟨c10, c11, lt1⟩ := b1.two
      have lbW : b < Wb.heap.size := Nat.lt_of_lt_of_le hbl gW.below.size
      have GW := Lib.hid (hG0.trans gW)
      have GB := Lib.hid (hG.trans gW)
      have D4 := Lib.hid (fun h0 => (gW.cell (p := ⟨b, f + u * 3, none⟩) hbl).trans (D4.out h0))
      clear b5 b1 e0 e1 gW hG hG0
      rcases hT with ⟨t0, hF⟩ | ⟨t1, t2, hF⟩ | ⟨t1, t2, t3, hF⟩ | ⟨t1, t2, t3, hY⟩
      · have HF := Lib.hid (HNLk.out hF)
        have t1 : (x2 != E) = true := by simpa using fun e => t0 e.symm
        clear hF t0
        go_quiet (fail)
        go_wp2
        go_ret
        exact ⟨by rw [HF.out]; rfl, GW.out.trans (Gr.drewN _ _)⟩
      · have HF := Lib.hid (HNLk.out hF)
        clear hF
        go_quiet (fail)
        go_wp2
        go_ret
        exact ⟨by rw [HF.out]; rfl, GW.out.trans (Gr.drewN _ _)⟩
      · have HF := Lib.hid (HNLk.out hF)
        clear hF
        go_quiet (fail)
        go_wp2
        go_ret
        exact ⟨by rw [HF.out]; rfl, GW.out.trans (Gr.drewN _ _)⟩
      · by_cases hbad : 0 < k ∧ x1 ≤ p1
        · have d4 := D4.out hbad.1
          have hg : decide (0 < k) = true := by simpa using hbad.1
          have q1 : IntKind.i64.wrap ((k : Int) - 1) = (u : Int) := by rw [IntKind.wrap_i64]; have := HU.out; omega
          have q4 : (u : Int) < (m : Int) := by have := HU.out; omega
          have h1 : decide (x1 ≤ p1) = true := by simpa using hbad.2
          have HF := Lib.hid (HNLk.out (by rw [HL.out]; intro h; have := h.1 hbad.1; omega))
          clear hbad hY
          go_quiet (fail)
          go_wp2
          go_ret
          exact ⟨by rw [HF.out]; rfl, GW.out.trans (Gr.drewN _ _)⟩
        · have hlk : Lnk n bs k := hY (fun h0 => by omega)
          have h00 := hE0.out hlk
          have h01 : x2 < x3 := by simp at t2; omega
          have h02 : x3 ≤ n := by simp at t3; omega
          have HLK := Lib.hid hlk
          have hd : (decide (0 < k) = true ∧ 0 < k) ∨ (decide (0 < k) = false) := by
            by_cases c : 0 < k
            · exact .inl ⟨by simpa using c, c⟩
            · exact .inr (by simpa using c)
          have HBAD := Lib.hid hbad
          clear hY hlk hbad
          rcases hd with ⟨hg, h0⟩ | hg
          all_goals
            first
              | (have d4 := D4.out h0
                 have q1 : IntKind.i64.wrap ((k : Int) - 1) = (u : Int) := by rw [IntKind.wrap_i64]; have := HU.out; omega
                 have q4 : (u : Int) < (m : Int) := by have := HU.out; omega
                 have h1 : decide (x1 ≤ p1) = false := by have := HBAD.out; simp; omega
                 clear h0)
              | skip
            go_quiet (fail)
            obtain ⟨p, hp⟩ : ∃ p : Nat, x2 = (p : Int) := ⟨x2.toNat, by omega⟩
            obtain ⟨r, hr⟩ : ∃ r : Nat, x3 = (r : Int) := ⟨x3.toNat, by omega⟩
            subst hp hr
            have i0' : p < r := by omega
            have i1 : (p : Int) ≤ (r : Int) := by omega
            have i3 : r ≤ n := by omega
            have i2 : r ≤ cl := by omega
            clear h00 h01 h02
            obtain ⟨lb, lf, rfl, hlb, hlc⟩ := HA.out.resolve_left (fun e => by have := HN.out; rw [e] at this; simp at this; omega)
            obtain ⟨L, hL⟩ : ∃ L, L = lvs lv (x1, (p : Int), (r : Int)) := ⟨_, rfl⟩
            rw [← hL] at HNRk HRR
            have hll : L.length = r - p := by
              have := lvs_len (lv := lv) (b := (x1, (p : Int), (r : Int))) (by simp) (by simpa using i1) (by simp; rw [← HN.out]; omega)
              rw [← hL] at this
              simp only at this
              omega
            have hLg : ∀ j (h : j < L.length), ∃ h2 : p + j < lv.length, L[j] = lv[p + j] := fun j h => by
              have hq := HN.out
              refine ⟨by omega, ?_⟩
              subst hL
              simp [lvs]
            have HLG := Lib.hid hLg
            have HLL := Lib.hid hll
            have HLC := Lib.hid hlc
            have hlb2 : lb < Wb.heap.size := Nat.lt_of_lt_of_le hlb GW.out.below.size
            clear hL hll hLg hlc
            clear t1 t2 t3 hg
            go_wp2
            (try clear d4 q1 q4 h1)
            go_loopw [58] (fun i wy => ∃ j : Nat, j ≤ r - p ∧ i = .int .i64 (j : Int) ∧ Hid (Rises (L.take j)) ∧ Gr Wb wy) (fun i _ => r - p - (intOf i).toNat)
            case atStart => exact ⟨0, by omega, rfl, Lib.hid (by simp [Rises]), Gr.drewN _ _⟩
            case round =>
              obtain ⟨j, hj, rfl, hp, hG⟩ := hrel
              obtain ⟨c50, c51, c52, lt5⟩ := (B5.out.later hG.below).c3
              obtain ⟨c10, c11, lt1⟩ := (B1.out.later hG.below).two
              by_cases hjl : j < r - p
              · have hjL : j < L.length := by have := HLL.out; omega
                by_cases h0 : 0 < j
                · have hj1 : j - 1 < L.length := by omega
                  obtain ⟨h2, hy⟩ := HLG.out j hjL
                  obtain ⟨h3, hz⟩ := HLG.out (j - 1) hj1
                  have gw := GW.out.trans hG
                  have d2 := (gw.cell (p := ⟨lb, lf + (p + j), none⟩) hlb).trans (HLC.out (p + j) h2)
                  have d1 := (gw.cell (p := ⟨lb, lf + (p + (j - 1)), none⟩) hlb).trans (HLC.out (p + (j - 1)) h3)
                  rw [← hy] at d2
                  rw [← hz] at d1
                  obtain ⟨s, hs⟩ : ∃ s, s = p + j := ⟨_, rfl⟩
                  obtain ⟨t, ht⟩ : ∃ t, t = p + (j - 1) := ⟨_, rfl⟩
                  rw [← hs] at d2
                  rw [← ht] at d1
                  obtain ⟨y, hy'⟩ : ∃ y, y = L[j] := ⟨_, rfl⟩
                  obtain ⟨z, hz'⟩ : ∃ z, z = L[j - 1]'hj1 := ⟨_, rfl⟩
                  rw [← hy'] at d2
                  rw [← hz'] at d1
                  have HY := Lib.hid hy'
                  have HZ := Lib.hid hz'
                  have q1 : IntKind.i64.wrap ((p : Int) + (j : Int)) = (s : Int) := by rw [IntKind.wrap_i64]; omega
                  have q2 : IntKind.i64.wrap ((s : Int) - 1) = (t : Int) := by rw [IntKind.wrap_i64]; omega
                  have q3 : (s : Int) < (n : Int) := by omega
                  have q4 : (t : Int) < (n : Int) := by omega
                  have hg : decide (0 < j) = true := by simpa using h0
                  have hlbr : lb < wr.heap.size := Nat.lt_of_lt_of_le hlb gw.below.size
                  clear hy hz hy' hz' hs ht h2 h3 gw
                  by_cases c : z < y
                  · have t1 : decide (y ≤ z) = false := by simp; omega
                    have HC := Lib.hid c
                    clear c
                    go_wp2
                    go_quiet (fail)
                    go_wp2
                    go_roundw
                    case rel => exact ⟨j + 1, by omega, by go_num, Lib.hid (rises_take_succ hjL (by omega) hp.out (by rw [← HY.out, ← HZ.out]; exact HC.out)), hG.trans (Gr.drewN _ _)⟩
                    case measure => simp [intOf]; omega
                  · have t1 : decide (y ≤ z) = true := by simp; omega
                    have HF := Lib.hid (HNRk.out (fun hr => c (by
                      have h1 := hr.at (i := j - 1) (j := j) (by omega) hjL (by omega)
                      rw [← HY.out, ← HZ.out] at h1
                      exact h1)))
                    clear c
                    go_wp2
                    go_quiet (fail)
                    go_wp2
                    go_ret
                    exact ⟨by rw [HF.out]; rfl, GW.out.trans (hG.trans (Gr.drewN _ _))⟩
                · have hg : decide (0 < j) = false := by simpa using h0
                  have hj0 : j = 0 := by omega
                  go_wp2
                  go_quiet (fail)
                  go_wp2
                  go_roundw
                  case rel =>
                    refine ⟨j + 1, by omega, by go_num, Lib.hid ?_, hG.trans (Gr.drewN _ _)⟩
                    subst hj0
                    rw [List.take_succ_eq_append_getElem hjL]
                    simp [Rises]
                  case measure => simp [intOf]; omega
              · have hrl : Rises L := by
                  have := hp.out
                  rwa [List.take_of_length_le (by have := HLL.out; omega)] at this
                have HR2 := Lib.hid (HRR.out hrl)
                clear hrl
                go_wp2
                go_roundw
                case rel =>
                  refine ⟨k + 1, by omega, by go_num, by rw [HN1.out], Lib.hid (fun j hj => ?_), HR2, GB.out.trans hG⟩
                  by_cases e : j = k
                  · subst e; exact HLK.out
                  · exact HJ.out j (by omega)
                case measure => simp [intOf]; omega
    · have hkm : k = m := by omega
      subst hkm
      have h1 := HEN.out
      have h2 := HYE.out HJ.out HRS.out
      obtain ⟨E, hE⟩ : ∃ E, E = endAt bs k := ⟨_, rfl⟩
      rw [← hE] at h1 h2 ⊢
      have H1 := Lib.hid h1
      have H2 := Lib.hid h2
      clear h1 h2 hE hlt
      by_cases c1 : E = (n : Int)
      · have t1 : (E == (n : Int)) = true := by simpa using c1
        by_cases c2 : E ≤ 1048576
        · have t2 : decide (E ≤ 1048576) = true := by simpa using c2
          have HF := Lib.hid (H2.out c1 c2)
          clear c1 c2
          go_wp2
          go_ret
          exact ⟨by rw [HF.out]; rfl, HG0.out.trans hG⟩
        · have t2 : decide (E ≤ 1048576) = false := by simpa using c2
          have HF := Lib.hid (H1.out (fun h => c2 h.2))
          clear c1 c2
          go_wp2
          go_ret
          exact ⟨by rw [HF.out]; rfl, HG0.out.trans hG⟩
      · have t1 : (E == (n : Int)) = false := by simpa using c1
        have HF := Lib.hid (H1.out (fun h => c1 h.1))
        clear c1
        go_wp2
        go_ret
        exact ⟨by rw [HF.out]; rfl, HG0.out.trans hG⟩
end Go.Proofs.Ytjfnhjmdgfkgnaa


/- The reference's rows: Row. -/
namespace Go.Proofs.Ytjfnhjmdgfkgnaa
open Go.RowKit Go.Proofs.Kit Go.Shelf
/-- Under the key of a branch stand its leaves. -/
theorem zk1_at {lv : List Int} : ∀ {bs : List Br} {i : Nat}, (bs.map (·.1)).Pairwise (· < ·) → (hi : i < bs.length) → zk1 bs lv bs[i].1 = lvs lv bs[i]
  | b :: t, 0, h, _ => by
    have h1 : ∀ x ∈ t, b.1 < x.1 := fun x hx => (List.pairwise_cons.1 h).1 _ (List.mem_map_of_mem hx)
    have h2 : ∀ l : List Br, (∀ x ∈ l, b.1 < x.1) → zk1 l lv b.1 = [] := by
      intro l
      induction l with
      | nil => intro _; rfl
      | cons y s ih =>
        intro hl
        have := hl y (by simp)
        have e : zk1 (y :: s) lv b.1 = (if y.1 = b.1 then lvs lv y else []) ++ zk1 s lv b.1 := by simp [zk1]
        rw [e, if_neg (by omega), ih (fun x hx => hl x (List.mem_cons_of_mem _ hx))]
        rfl
    have e : zk1 (b :: t) lv b.1 = (if b.1 = b.1 then lvs lv b else []) ++ zk1 t lv b.1 := by simp [zk1]
    simp only [List.getElem_cons_zero]
    rw [e, if_pos rfl, h2 t h1, List.append_nil]
  | b :: t, i + 1, h, hi => by
    have hi' : i < t.length := by simpa using hi
    have h1 := (List.pairwise_cons.1 h).1 _ (List.mem_map_of_mem (List.getElem_mem hi'))
    have e : ∀ a, zk1 (b :: t) lv a = (if b.1 = a then lvs lv b else []) ++ zk1 t lv a := by intro a; simp [zk1]
    simp only [List.getElem_cons_succ]
    rw [e, if_neg (by simp only at h1; omega), zk1_at (List.pairwise_cons.1 h).2 hi']
    rfl
theorem newc8 (W : World) (a : Int) : (W.alloc (.cells #[.int .u64 a] 32)).drew.cell? ⟨W.heap.size, 0, none⟩ = some (.int .u64 a) := (Blk.new W #[.int .u64 a] 32).cell 0
/-- The reference's place, as cells. -/
abbrev PC (ob : Option Addr) (m cb : Nat) (ol : Option Addr) (q cl : Nat) (d a0 a1 a2 lo hi : Int) : Array Value := #[.slice ob m cb, .slice ol q cl, .int .i64 d, .int .i64 a0, .int .i64 a1, .int .i64 a2, .int .i64 lo, .int .i64 hi]
section
variable (ob : Option Addr) (m cb : Nat) (ol : Option Addr) (q cl : Nat) (bs : List Br) (lv : List Int) (d a0 a1 a2 lo hi : Int) (w : World)
set_option maxRecDepth 100000 in
set_option maxHeartbeats 1000000 in
theorem prow1 (hb : SegR w (.slice ob m cb) bs) (hl : Seg .u64 w (.slice ol q cl) lv) (hbs : bs.length ≤ 10000) :
    Calls Try.prog 78 #[.agg (PC ob m cb ol q cl d a0 a1 a2 lo hi), .int .i64 1] w fun e w' => ∃ v', e = .returned v' ∧ Owns .u64 32 w.heap.size w' v' (keysB bs) ∧ Below w.heap.size w w' := by
  have HZ := Lib.hid (fun W (g : Below w.heap.size w W) => zkeys0 (.slice ob m cb) (.slice ol q cl) bs lv none 0 W (hb.later g) (hl.later g) hbs)
  clear hb hl hbs
  go_enter Try.func78, Try.ntmps78
  go_wp2_with fail
  have b0 : Below w.heap.size w (w.alloc (.cells (PC ob m cb ol q cl d a0 a1 a2 lo hi) 65)) := (Below.refl _ _).alloc (Nat.le_refl _) _
  refine (HZ.out _ b0).mono ?_
  rintro e w1 ⟨v', rfl, hO, b1⟩
  have g1 := b0.trans (b1.mono b0.size)
  have HO := Lib.hid (hO.mono (B' := w.heap.size) b0.size)
  clear b1 b0 hO
  go_wp2_with fail
  go_ret
  exact ⟨v', rfl, HO.out, g1⟩
set_option maxRecDepth 100000 in
set_option maxHeartbeats 4000000 in
theorem prow2 (B F i : Nat) (a : Int) (dd : Int) (hd : (dd == 1) = false) (hb : SegR w (.slice (some ⟨B, F, none⟩) m cb) bs) (hl : Seg .u64 w (.slice ol q cl) lv) (hbs : bs.length ≤ 10000) (hls : lv.length ≤ 10000) (hcd : Chd lv.length bs) (hi9 : i < m) (hB : B < w.heap.size) (hca : w.cell? ⟨B, F + i * 3, none⟩ = some (.int .u64 a)) :
    Calls Try.prog 78 #[.agg (PC (some ⟨B, F, none⟩) m cb ol q cl d a0 (i : Int) a2 lo hi), .int .i64 dd] w fun e w' => ∃ v', e = .returned v' ∧ Owns .u64 32 w.heap.size w' v' (zk1 bs lv a) ∧ Below w.heap.size w w' := by
  have HZ := Lib.hid (fun W p c (g : Below w.heap.size w W) (hp : W.cell? p = some (.int .u64 a)) => zkeys1 (.slice (some ⟨B, F, none⟩) m cb) (.slice ol q cl) bs lv p (some p) c a W (hb.later g) (hl.later g) hls hbs rfl hp hcd)
  have hk : ∀ W', Below w.heap.size w W' → Blk W' w.heap.size (PC (some ⟨B, F, none⟩) m cb ol q cl d a0 (i : Int) a2 lo hi) 65 → ((W'.cell? ⟨w.heap.size, 0, none⟩ = some (.slice (some ⟨B, F, none⟩) m cb) ∧ W'.cell? ⟨w.heap.size, 1, none⟩ = some (.slice ol q cl) ∧ W'.cell? ⟨w.heap.size, 2, none⟩ = some (.int .i64 d) ∧ W'.cell? ⟨w.heap.size, 3, none⟩ = some (.int .i64 a0) ∧ W'.cell? ⟨w.heap.size, 4, none⟩ = some (.int .i64 (i : Int)) ∧ W'.cell? ⟨w.heap.size, 5, none⟩ = some (.int .i64 a2) ∧ W'.cell? ⟨w.heap.size, 6, none⟩ = some (.int .i64 lo) ∧ W'.cell? ⟨w.heap.size, 7, none⟩ = some (.int .i64 hi)) ∧ W'.cell? ⟨B, F + i * 3, none⟩ = some (.int .u64 a) ∧ w.heap.size < W'.heap.size) ∧ Below w.heap.size w W' ∧ Blk W' w.heap.size (PC (some ⟨B, F, none⟩) m cb ol q cl d a0 (i : Int) a2 lo hi) 65 :=
    fun W' g h => ⟨⟨⟨h.cell 0, h.cell 1, h.cell 2, h.cell 3, h.cell 4, h.cell 5, h.cell 6, h.cell 7⟩, (g.cell (p := ⟨B, F + i * 3, none⟩) hB).trans hca, h.lt⟩, g, h⟩
  have HK := Lib.hid hk
  have i1 : (0 : Int) ≤ (i : Int) := by omega
  have i2 : (i : Int) < (m : Int) := by omega
  clear hb hl hbs hls hcd hca hk hB
  go_enter Try.func78, Try.ntmps78
  go_wp2_with fail
  obtain ⟨W0, hW0⟩ : ∃ W0, W0 = w.alloc (.cells (PC (some ⟨B, F, none⟩) m cb ol q cl d a0 (i : Int) a2 lo hi) 65) := ⟨_, rfl⟩
  have hws : Below w.heap.size w W0 ∧ Blk W0 w.heap.size (PC (some ⟨B, F, none⟩) m cb ol q cl d a0 (i : Int) a2 lo hi) 65 := by rw [hW0]; exact ⟨(Below.refl _ _).alloc (Nat.le_refl _) _, Blk.new _ _ _⟩
  rw [← hW0]
  clear hW0
  go_region_held3 (fun W' => ((W'.cell? ⟨w.heap.size, 0, none⟩ = some (.slice (some ⟨B, F, none⟩) m cb) ∧ W'.cell? ⟨w.heap.size, 1, none⟩ = some (.slice ol q cl) ∧ W'.cell? ⟨w.heap.size, 2, none⟩ = some (.int .i64 d) ∧ W'.cell? ⟨w.heap.size, 3, none⟩ = some (.int .i64 a0) ∧ W'.cell? ⟨w.heap.size, 4, none⟩ = some (.int .i64 (i : Int)) ∧ W'.cell? ⟨w.heap.size, 5, none⟩ = some (.int .i64 a2) ∧ W'.cell? ⟨w.heap.size, 6, none⟩ = some (.int .i64 lo) ∧ W'.cell? ⟨w.heap.size, 7, none⟩ = some (.int .i64 hi)) ∧ W'.cell? ⟨B, F + i * 3, none⟩ = some (.int .u64 a) ∧ w.heap.size < W'.heap.size) ∧ Below w.heap.size w W' ∧ Blk W' w.heap.size (PC (some ⟨B, F, none⟩) m cb ol q cl d a0 (i : Int) a2 lo hi) 65)
    (first | exact HK.out _ hws.1 hws.2 | exact HK.out _ hws.1.drew (hws.2.later (Below.refl _ _).drew) | exact HK.out _ (hws.1.alloc hws.1.size _) (hws.2.alloc _) | exact HK.out _ (hws.1.drew.alloc hws.1.size _) ((hws.2.later (Below.refl _ _).drew).alloc _))
    ((go_at_call 16; (with_reducible refine (HZ.out _ _ _ (hws.1.alloc hws.1.size _).drew (newc8 W0 a)).mono ?_); rintro e w3 ⟨v', rfl, hO, lF⟩; have hw1 := (hws.1.alloc hws.1.size (.cells #[.int .u64 a] 32)).drew; have hws : Below w.heap.size w w3 ∧ Blk w3 w.heap.size (PC (some ⟨B, F, none⟩) m cb ol q cl d a0 (i : Int) a2 lo hi) 65 := ⟨hw1.trans (lF.mono hw1.size), ((hws.2.alloc (.cells #[.int .u64 a] 32)).later (Below.refl _ _).drew).later lF⟩; have hO := hO.mono (B' := w.heap.size) hw1.size))
  all_goals
    go_wp2_with fail
    go_ret
    exact ⟨v', rfl, hO, hws.1⟩
set_option maxRecDepth 100000 in
set_option maxHeartbeats 4000000 in
theorem pend1 (j : Nat) (R : List Int) (hR : ∀ W, Below w.heap.size w W → Calls Try.prog 78 #[.agg (PC ob m cb ol q cl 1 a0 (j : Int) a2 lo hi), .int .i64 1] W fun e w' => ∃ v', e = .returned v' ∧ Owns .u64 32 W.heap.size w' v' R ∧ Below W.heap.size W w') :
    Calls Try.prog 113 #[.agg (PC ob m cb ol q cl 1 a0 (j : Int) a2 lo hi)] w fun e w' => e = .returned (.bool ((j : Int) == (R.length : Int))) ∧ Below w.heap.size w w' := by
  have HR := Lib.hid hR
  have hk : ∀ W', Below w.heap.size w W' → Blk W' w.heap.size (PC ob m cb ol q cl 1 a0 (j : Int) a2 lo hi) 65 → ((W'.cell? ⟨w.heap.size, 0, none⟩ = some (.slice ob m cb) ∧ W'.cell? ⟨w.heap.size, 1, none⟩ = some (.slice ol q cl) ∧ W'.cell? ⟨w.heap.size, 2, none⟩ = some (.int .i64 1) ∧ W'.cell? ⟨w.heap.size, 3, none⟩ = some (.int .i64 a0) ∧ W'.cell? ⟨w.heap.size, 4, none⟩ = some (.int .i64 (j : Int)) ∧ W'.cell? ⟨w.heap.size, 5, none⟩ = some (.int .i64 a2) ∧ W'.cell? ⟨w.heap.size, 6, none⟩ = some (.int .i64 lo) ∧ W'.cell? ⟨w.heap.size, 7, none⟩ = some (.int .i64 hi)) ∧ w.heap.size < W'.heap.size) ∧ Below w.heap.size w W' ∧ Blk W' w.heap.size (PC ob m cb ol q cl 1 a0 (j : Int) a2 lo hi) 65 :=
    fun W' g h => ⟨⟨⟨h.cell 0, h.cell 1, h.cell 2, h.cell 3, h.cell 4, h.cell 5, h.cell 6, h.cell 7⟩, h.lt⟩, g, h⟩
  have HK := Lib.hid hk
  clear hR hk
  go_enter Try.func113, Try.ntmps113
  go_wp2_with fail
  obtain ⟨W0, hW0⟩ : ∃ W0, W0 = w.alloc (.cells (PC ob m cb ol q cl 1 a0 (j : Int) a2 lo hi) 65) := ⟨_, rfl⟩
  have hws : Below w.heap.size w W0 ∧ Blk W0 w.heap.size (PC ob m cb ol q cl 1 a0 (j : Int) a2 lo hi) 65 := by rw [hW0]; exact ⟨(Below.refl _ _).alloc (Nat.le_refl _) _, Blk.new _ _ _⟩
  rw [← hW0]
  clear hW0
  go_region_held3 (fun W' => ((W'.cell? ⟨w.heap.size, 0, none⟩ = some (.slice ob m cb) ∧ W'.cell? ⟨w.heap.size, 1, none⟩ = some (.slice ol q cl) ∧ W'.cell? ⟨w.heap.size, 2, none⟩ = some (.int .i64 1) ∧ W'.cell? ⟨w.heap.size, 3, none⟩ = some (.int .i64 a0) ∧ W'.cell? ⟨w.heap.size, 4, none⟩ = some (.int .i64 (j : Int)) ∧ W'.cell? ⟨w.heap.size, 5, none⟩ = some (.int .i64 a2) ∧ W'.cell? ⟨w.heap.size, 6, none⟩ = some (.int .i64 lo) ∧ W'.cell? ⟨w.heap.size, 7, none⟩ = some (.int .i64 hi)) ∧ w.heap.size < W'.heap.size) ∧ Below w.heap.size w W' ∧ Blk W' w.heap.size (PC ob m cb ol q cl 1 a0 (j : Int) a2 lo hi) 65)
    (first | exact HK.out _ hws.1 hws.2 | exact HK.out _ hws.1.drew (hws.2.later (Below.refl _ _).drew))
    ((go_at_call 78; (with_reducible refine (HR.out _ (by first | exact hws.1 | exact hws.1.drew)).mono ?_); rintro e w3 ⟨v', rfl, hO, lF⟩; obtain ⟨o3, c3, rfl⟩ := hO.shape; have hws : Below w.heap.size w w3 ∧ Blk w3 w.heap.size (PC ob m cb ol q cl 1 a0 (j : Int) a2 lo hi) 65 := (by first | exact ⟨hws.1.trans (lF.mono hws.1.size), hws.2.later lF⟩ | exact ⟨hws.1.drew.trans (lF.mono hws.1.size), (hws.2.later (Below.refl _ _).drew).later lF⟩)))
  all_goals
    have hlow := hws.1
    go_wp2_with fail
    go_ret
    exact ⟨rfl, hlow⟩
set_option maxRecDepth 100000 in
set_option maxHeartbeats 4000000 in
theorem pend2 (j : Nat) (R : List Int) (hR : ∀ W, Below w.heap.size w W → Calls Try.prog 78 #[.agg (PC ob m cb ol q cl 2 a0 a1 (j : Int) lo hi), .int .i64 2] W fun e w' => ∃ v', e = .returned v' ∧ Owns .u64 32 W.heap.size w' v' R ∧ Below W.heap.size W w') :
    Calls Try.prog 113 #[.agg (PC ob m cb ol q cl 2 a0 a1 (j : Int) lo hi)] w fun e w' => e = .returned (.bool ((j : Int) == (R.length : Int))) ∧ Below w.heap.size w w' := by
  have HR := Lib.hid hR
  have hk : ∀ W', Below w.heap.size w W' → Blk W' w.heap.size (PC ob m cb ol q cl 2 a0 a1 (j : Int) lo hi) 65 → ((W'.cell? ⟨w.heap.size, 0, none⟩ = some (.slice ob m cb) ∧ W'.cell? ⟨w.heap.size, 1, none⟩ = some (.slice ol q cl) ∧ W'.cell? ⟨w.heap.size, 2, none⟩ = some (.int .i64 2) ∧ W'.cell? ⟨w.heap.size, 3, none⟩ = some (.int .i64 a0) ∧ W'.cell? ⟨w.heap.size, 4, none⟩ = some (.int .i64 a1) ∧ W'.cell? ⟨w.heap.size, 5, none⟩ = some (.int .i64 (j : Int)) ∧ W'.cell? ⟨w.heap.size, 6, none⟩ = some (.int .i64 lo) ∧ W'.cell? ⟨w.heap.size, 7, none⟩ = some (.int .i64 hi)) ∧ w.heap.size < W'.heap.size) ∧ Below w.heap.size w W' ∧ Blk W' w.heap.size (PC ob m cb ol q cl 2 a0 a1 (j : Int) lo hi) 65 :=
    fun W' g h => ⟨⟨⟨h.cell 0, h.cell 1, h.cell 2, h.cell 3, h.cell 4, h.cell 5, h.cell 6, h.cell 7⟩, h.lt⟩, g, h⟩
  have HK := Lib.hid hk
  clear hR hk
  go_enter Try.func113, Try.ntmps113
  go_wp2_with fail
  obtain ⟨W0, hW0⟩ : ∃ W0, W0 = w.alloc (.cells (PC ob m cb ol q cl 2 a0 a1 (j : Int) lo hi) 65) := ⟨_, rfl⟩
  have hws : Below w.heap.size w W0 ∧ Blk W0 w.heap.size (PC ob m cb ol q cl 2 a0 a1 (j : Int) lo hi) 65 := by rw [hW0]; exact ⟨(Below.refl _ _).alloc (Nat.le_refl _) _, Blk.new _ _ _⟩
  rw [← hW0]
  clear hW0
  go_region_held3 (fun W' => ((W'.cell? ⟨w.heap.size, 0, none⟩ = some (.slice ob m cb) ∧ W'.cell? ⟨w.heap.size, 1, none⟩ = some (.slice ol q cl) ∧ W'.cell? ⟨w.heap.size, 2, none⟩ = some (.int .i64 2) ∧ W'.cell? ⟨w.heap.size, 3, none⟩ = some (.int .i64 a0) ∧ W'.cell? ⟨w.heap.size, 4, none⟩ = some (.int .i64 a1) ∧ W'.cell? ⟨w.heap.size, 5, none⟩ = some (.int .i64 (j : Int)) ∧ W'.cell? ⟨w.heap.size, 6, none⟩ = some (.int .i64 lo) ∧ W'.cell? ⟨w.heap.size, 7, none⟩ = some (.int .i64 hi)) ∧ w.heap.size < W'.heap.size) ∧ Below w.heap.size w W' ∧ Blk W' w.heap.size (PC ob m cb ol q cl 2 a0 a1 (j : Int) lo hi) 65)
    (first | exact HK.out _ hws.1 hws.2 | exact HK.out _ hws.1.drew (hws.2.later (Below.refl _ _).drew))
    ((go_at_call 78; (with_reducible refine (HR.out _ (by first | exact hws.1 | exact hws.1.drew)).mono ?_); rintro e w3 ⟨v', rfl, hO, lF⟩; obtain ⟨o3, c3, rfl⟩ := hO.shape; have hws : Below w.heap.size w w3 ∧ Blk w3 w.heap.size (PC ob m cb ol q cl 2 a0 a1 (j : Int) lo hi) 65 := (by first | exact ⟨hws.1.trans (lF.mono hws.1.size), hws.2.later lF⟩ | exact ⟨hws.1.drew.trans (lF.mono hws.1.size), (hws.2.later (Below.refl _ _).drew).later lF⟩)))
  all_goals
    have hlow := hws.1
    go_wp2_with fail
    go_ret
    exact ⟨rfl, hlow⟩
set_option maxRecDepth 100000 in
set_option maxHeartbeats 4000000 in
theorem pleft1 (j : Nat) (R : List Int) (hj : j ≤ R.length) (hRl : R.length ≤ 1000000) (hR : ∀ W, Below w.heap.size w W → Calls Try.prog 78 #[.agg (PC ob m cb ol q cl 1 a0 (j : Int) a2 lo hi), .int .i64 1] W fun e w' => ∃ v', e = .returned v' ∧ Owns .u64 32 W.heap.size w' v' R ∧ Below W.heap.size W w') :
    Calls Try.prog 75 #[.agg (PC ob m cb ol q cl 1 a0 (j : Int) a2 lo hi)] w fun e w' => e = .returned (.int .i64 ((R.length - j : Nat) : Int)) ∧ Below w.heap.size w w' := by
  have HR := Lib.hid hR
  have hk : ∀ W', Below w.heap.size w W' → Blk W' w.heap.size (PC ob m cb ol q cl 1 a0 (j : Int) a2 lo hi) 65 → ((W'.cell? ⟨w.heap.size, 0, none⟩ = some (.slice ob m cb) ∧ W'.cell? ⟨w.heap.size, 1, none⟩ = some (.slice ol q cl) ∧ W'.cell? ⟨w.heap.size, 2, none⟩ = some (.int .i64 1) ∧ W'.cell? ⟨w.heap.size, 3, none⟩ = some (.int .i64 a0) ∧ W'.cell? ⟨w.heap.size, 4, none⟩ = some (.int .i64 (j : Int)) ∧ W'.cell? ⟨w.heap.size, 5, none⟩ = some (.int .i64 a2) ∧ W'.cell? ⟨w.heap.size, 6, none⟩ = some (.int .i64 lo) ∧ W'.cell? ⟨w.heap.size, 7, none⟩ = some (.int .i64 hi)) ∧ w.heap.size < W'.heap.size) ∧ Below w.heap.size w W' ∧ Blk W' w.heap.size (PC ob m cb ol q cl 1 a0 (j : Int) a2 lo hi) 65 :=
    fun W' g h => ⟨⟨⟨h.cell 0, h.cell 1, h.cell 2, h.cell 3, h.cell 4, h.cell 5, h.cell 6, h.cell 7⟩, h.lt⟩, g, h⟩
  have HK := Lib.hid hk
  have r1 : IntKind.i64.wrap ((R.length : Int) - (j : Int)) = ((R.length - j : Nat) : Int) := by rw [IntKind.wrap_i64]; omega
  clear hR hk hj hRl
  go_enter Try.func75, Try.ntmps75
  go_wp2_with fail
  obtain ⟨W0, hW0⟩ : ∃ W0, W0 = w.alloc (.cells (PC ob m cb ol q cl 1 a0 (j : Int) a2 lo hi) 65) := ⟨_, rfl⟩
  have hws : Below w.heap.size w W0 ∧ Blk W0 w.heap.size (PC ob m cb ol q cl 1 a0 (j : Int) a2 lo hi) 65 := by rw [hW0]; exact ⟨(Below.refl _ _).alloc (Nat.le_refl _) _, Blk.new _ _ _⟩
  rw [← hW0]
  obtain ⟨z2, zl⟩ : W0.cell? ⟨w.heap.size, 2, none⟩ = some (.int .i64 1) ∧ w.heap.size < W0.heap.size := ⟨hws.2.cell 2, hws.2.lt⟩
  clear hW0
  go_wp2_with fail
  go_region_held3 (fun W' => ((W'.cell? ⟨w.heap.size, 0, none⟩ = some (.slice ob m cb) ∧ W'.cell? ⟨w.heap.size, 1, none⟩ = some (.slice ol q cl) ∧ W'.cell? ⟨w.heap.size, 2, none⟩ = some (.int .i64 1) ∧ W'.cell? ⟨w.heap.size, 3, none⟩ = some (.int .i64 a0) ∧ W'.cell? ⟨w.heap.size, 4, none⟩ = some (.int .i64 (j : Int)) ∧ W'.cell? ⟨w.heap.size, 5, none⟩ = some (.int .i64 a2) ∧ W'.cell? ⟨w.heap.size, 6, none⟩ = some (.int .i64 lo) ∧ W'.cell? ⟨w.heap.size, 7, none⟩ = some (.int .i64 hi)) ∧ w.heap.size < W'.heap.size) ∧ Below w.heap.size w W' ∧ Blk W' w.heap.size (PC ob m cb ol q cl 1 a0 (j : Int) a2 lo hi) 65)
    (first | exact HK.out _ hws.1 hws.2 | exact HK.out _ hws.1.drew (hws.2.later (Below.refl _ _).drew))
    ((go_at_call 78; (with_reducible refine (HR.out _ (by first | exact hws.1 | exact hws.1.drew)).mono ?_); rintro e w3 ⟨v', rfl, hO, lF⟩; obtain ⟨o3, c3, rfl⟩ := hO.shape; have hws : Below w.heap.size w w3 ∧ Blk w3 w.heap.size (PC ob m cb ol q cl 1 a0 (j : Int) a2 lo hi) 65 := (by first | exact ⟨hws.1.trans (lF.mono hws.1.size), hws.2.later lF⟩ | exact ⟨hws.1.drew.trans (lF.mono hws.1.size), (hws.2.later (Below.refl _ _).drew).later lF⟩)))
  all_goals
    have hlow := hws.1
    go_wp2_with fail
    go_ret
    exact ⟨rfl, hlow⟩
set_option maxRecDepth 100000 in
set_option maxHeartbeats 4000000 in
theorem pleft2 (j : Nat) (R : List Int) (hj : j ≤ R.length) (hRl : R.length ≤ 1000000) (hR : ∀ W, Below w.heap.size w W → Calls Try.prog 78 #[.agg (PC ob m cb ol q cl 2 a0 a1 (j : Int) lo hi), .int .i64 2] W fun e w' => ∃ v', e = .returned v' ∧ Owns .u64 32 W.heap.size w' v' R ∧ Below W.heap.size W w') :
    Calls Try.prog 75 #[.agg (PC ob m cb ol q cl 2 a0 a1 (j : Int) lo hi)] w fun e w' => e = .returned (.int .i64 ((R.length - j : Nat) : Int)) ∧ Below w.heap.size w w' := by
  have HR := Lib.hid hR
  have hk : ∀ W', Below w.heap.size w W' → Blk W' w.heap.size (PC ob m cb ol q cl 2 a0 a1 (j : Int) lo hi) 65 → ((W'.cell? ⟨w.heap.size, 0, none⟩ = some (.slice ob m cb) ∧ W'.cell? ⟨w.heap.size, 1, none⟩ = some (.slice ol q cl) ∧ W'.cell? ⟨w.heap.size, 2, none⟩ = some (.int .i64 2) ∧ W'.cell? ⟨w.heap.size, 3, none⟩ = some (.int .i64 a0) ∧ W'.cell? ⟨w.heap.size, 4, none⟩ = some (.int .i64 a1) ∧ W'.cell? ⟨w.heap.size, 5, none⟩ = some (.int .i64 (j : Int)) ∧ W'.cell? ⟨w.heap.size, 6, none⟩ = some (.int .i64 lo) ∧ W'.cell? ⟨w.heap.size, 7, none⟩ = some (.int .i64 hi)) ∧ w.heap.size < W'.heap.size) ∧ Below w.heap.size w W' ∧ Blk W' w.heap.size (PC ob m cb ol q cl 2 a0 a1 (j : Int) lo hi) 65 :=
    fun W' g h => ⟨⟨⟨h.cell 0, h.cell 1, h.cell 2, h.cell 3, h.cell 4, h.cell 5, h.cell 6, h.cell 7⟩, h.lt⟩, g, h⟩
  have HK := Lib.hid hk
  have r1 : IntKind.i64.wrap ((R.length : Int) - (j : Int)) = ((R.length - j : Nat) : Int) := by rw [IntKind.wrap_i64]; omega
  clear hR hk hj hRl
  go_enter Try.func75, Try.ntmps75
  go_wp2_with fail
  obtain ⟨W0, hW0⟩ : ∃ W0, W0 = w.alloc (.cells (PC ob m cb ol q cl 2 a0 a1 (j : Int) lo hi) 65) := ⟨_, rfl⟩
  have hws : Below w.heap.size w W0 ∧ Blk W0 w.heap.size (PC ob m cb ol q cl 2 a0 a1 (j : Int) lo hi) 65 := by rw [hW0]; exact ⟨(Below.refl _ _).alloc (Nat.le_refl _) _, Blk.new _ _ _⟩
  rw [← hW0]
  obtain ⟨z2, zl⟩ : W0.cell? ⟨w.heap.size, 2, none⟩ = some (.int .i64 2) ∧ w.heap.size < W0.heap.size := ⟨hws.2.cell 2, hws.2.lt⟩
  clear hW0
  go_wp2_with fail
  go_region_held3 (fun W' => ((W'.cell? ⟨w.heap.size, 0, none⟩ = some (.slice ob m cb) ∧ W'.cell? ⟨w.heap.size, 1, none⟩ = some (.slice ol q cl) ∧ W'.cell? ⟨w.heap.size, 2, none⟩ = some (.int .i64 2) ∧ W'.cell? ⟨w.heap.size, 3, none⟩ = some (.int .i64 a0) ∧ W'.cell? ⟨w.heap.size, 4, none⟩ = some (.int .i64 a1) ∧ W'.cell? ⟨w.heap.size, 5, none⟩ = some (.int .i64 (j : Int)) ∧ W'.cell? ⟨w.heap.size, 6, none⟩ = some (.int .i64 lo) ∧ W'.cell? ⟨w.heap.size, 7, none⟩ = some (.int .i64 hi)) ∧ w.heap.size < W'.heap.size) ∧ Below w.heap.size w W' ∧ Blk W' w.heap.size (PC ob m cb ol q cl 2 a0 a1 (j : Int) lo hi) 65)
    (first | exact HK.out _ hws.1 hws.2 | exact HK.out _ hws.1.drew (hws.2.later (Below.refl _ _).drew))
    ((go_at_call 78; (with_reducible refine (HR.out _ (by first | exact hws.1 | exact hws.1.drew)).mono ?_); rintro e w3 ⟨v', rfl, hO, lF⟩; obtain ⟨o3, c3, rfl⟩ := hO.shape; have hws : Below w.heap.size w w3 ∧ Blk w3 w.heap.size (PC ob m cb ol q cl 2 a0 a1 (j : Int) lo hi) 65 := (by first | exact ⟨hws.1.trans (lF.mono hws.1.size), hws.2.later lF⟩ | exact ⟨hws.1.drew.trans (lF.mono hws.1.size), (hws.2.later (Below.refl _ _).drew).later lF⟩)))
  all_goals
    have hlow := hws.1
    go_wp2_with fail
    go_ret
    exact ⟨rfl, hlow⟩
end
end Go.Proofs.Ytjfnhjmdgfkgnaa


/- The reference's rows: Row. -/
namespace Go.Proofs.Ytjfnhjmdgfkgnaa
open Go.RowKit Go.Proofs.Kit Go.Shelf
section
variable (ob : Option Addr) (m cb : Nat) (ol : Option Addr) (q cl : Nat) (bs : List Br) (lv : List Int) (d a0 a1 a2 lo hi : Int) (w : World)
set_option maxRecDepth 100000 in
set_option maxHeartbeats 4000000 in
theorem pkey1 (j : Nat) (R : List Int) (hj : j ≤ R.length) (hR : ∀ W, Below w.heap.size w W → Calls Try.prog 78 #[.agg (PC ob m cb ol q cl 1 a0 (j : Int) a2 lo hi), .int .i64 1] W fun e w' => ∃ v', e = .returned v' ∧ Owns .u64 32 W.heap.size w' v' R ∧ Below W.heap.size W w') :
    Calls Try.prog 73 #[.agg (PC ob m cb ol q cl 1 a0 (j : Int) a2 lo hi)] w fun e w' => e = .returned (.tuple #[.int .u64 ((R.drop j).headD 0), .bool (decide (j < R.length))]) ∧ Below w.heap.size w w' := by
  have HR := Lib.hid hR
  have HE := Lib.hid (fun W (g : Below w.heap.size w W) => pend1 ob m cb ol q cl a0 a2 lo hi W j R (fun W' g' => hR W' (below_later g g')))
  clear hR
  by_cases hlt : j < R.length
  · have hne : ((j : Int) == (R.length : Int)) = false := by simp; omega
    have hdl : decide (j < R.length) = true := by simpa using hlt
    rw [hdl]
    rw [hne] at HE
    have hhd : (R.drop j).headD 0 = R[j] := by rw [List.drop_eq_getElem_cons hlt]; rfl
    rw [hhd]
    obtain ⟨x, hx⟩ : ∃ x, x = R[j] := ⟨_, rfl⟩
    rw [← hx]
    have HX := Lib.hid hx
    have HLT := Lib.hid hlt
    have i1 : (0 : Int) ≤ (j : Int) := by omega
    have i2 : (j : Int) < (R.length : Int) := by omega
    clear hne hdl hhd hx hj
    go_enter Try.func73, Try.ntmps73
    go_wp2_with fail
    obtain ⟨W0, hW0⟩ : ∃ W0, W0 = w.alloc (.cells (PC ob m cb ol q cl 1 a0 (j : Int) a2 lo hi) 65) := ⟨_, rfl⟩
    have hws : Below w.heap.size w W0 ∧ Blk W0 w.heap.size (PC ob m cb ol q cl 1 a0 (j : Int) a2 lo hi) 65 := by rw [hW0]; exact ⟨(Below.refl _ _).alloc (Nat.le_refl _) _, Blk.new _ _ _⟩
    rw [← hW0]
    clear hW0
    refine (HE.out _ hws.1).mono ?_
    rintro e w1 ⟨rfl, b1⟩
    have hws : Below w.heap.size w w1 ∧ Blk w1 w.heap.size (PC ob m cb ol q cl 1 a0 (j : Int) a2 lo hi) 65 := ⟨hws.1.trans (b1.mono hws.1.size), hws.2.later b1⟩
    clear b1
    obtain ⟨z0, z1, z2, z3, z4, z5, z6, z7, zl⟩ : w1.cell? ⟨w.heap.size, 0, none⟩ = some (.slice ob m cb) ∧ w1.cell? ⟨w.heap.size, 1, none⟩ = some (.slice ol q cl) ∧ w1.cell? ⟨w.heap.size, 2, none⟩ = some (.int .i64 1) ∧ w1.cell? ⟨w.heap.size, 3, none⟩ = some (.int .i64 a0) ∧ w1.cell? ⟨w.heap.size, 4, none⟩ = some (.int .i64 (j : Int)) ∧ w1.cell? ⟨w.heap.size, 5, none⟩ = some (.int .i64 a2) ∧ w1.cell? ⟨w.heap.size, 6, none⟩ = some (.int .i64 lo) ∧ w1.cell? ⟨w.heap.size, 7, none⟩ = some (.int .i64 hi) ∧ w.heap.size < w1.heap.size := ⟨hws.2.cell 0, hws.2.cell 1, hws.2.cell 2, hws.2.cell 3, hws.2.cell 4, hws.2.cell 5, hws.2.cell 6, hws.2.cell 7, hws.2.lt⟩
    have HWS := Lib.hid hws
    clear hws
    go_wp2_with fail
    go_region_with (go_at_call 78; (with_reducible refine (HR.out _ (by first | exact HWS.out.1 | exact HWS.out.1.drew)).mono ?_); rintro e w3 ⟨v', rfl, hO, lF⟩; obtain ⟨o3, c3, rfl⟩ := hO.shape; obtain ⟨b3, f3, rfl, q1, q2, q3, hcell⟩ := segU_has hO.seg (Nat.lt_of_le_of_lt (Nat.zero_le _) HLT.out); have hxc := hcell j HLT.out; rw [← HX.out] at hxc; have hws : Below w.heap.size w w3 ∧ Blk w3 w.heap.size (PC ob m cb ol q cl 1 a0 (j : Int) a2 lo hi) 65 := (by first | exact ⟨HWS.out.1.trans (lF.mono HWS.out.1.size), HWS.out.2.later lF⟩ | exact ⟨HWS.out.1.drew.trans (lF.mono HWS.out.1.size), (HWS.out.2.later (Below.refl _ _).drew).later lF⟩); obtain ⟨t2, t3, t4, t5, tl⟩ : w3.cell? ⟨w.heap.size, 2, none⟩ = some (.int .i64 1) ∧ w3.cell? ⟨w.heap.size, 3, none⟩ = some (.int .i64 a0) ∧ w3.cell? ⟨w.heap.size, 4, none⟩ = some (.int .i64 (j : Int)) ∧ w3.cell? ⟨w.heap.size, 5, none⟩ = some (.int .i64 a2) ∧ w.heap.size < w3.heap.size := ⟨hws.2.cell 2, hws.2.cell 3, hws.2.cell 4, hws.2.cell 5, hws.2.lt⟩; clear hcell hO lF)
    all_goals
      have hlow := hws.1
      go_wp2_with fail
      go_ret2
      exact ⟨rfl, hlow⟩
  · have hjl : j = R.length := by omega
    have hne : ((j : Int) == (R.length : Int)) = true := by simp; omega
    rw [hne] at HE
    have hhd : (R.drop j).headD 0 = 0 := by rw [hjl]; simp
    rw [hhd, show decide (j < R.length) = false by simp; omega]
    clear hne hhd hlt hj hjl
    go_enter Try.func73, Try.ntmps73
    go_wp2_with fail
    have b0 : Below w.heap.size w (w.alloc (.cells (PC ob m cb ol q cl 1 a0 (j : Int) a2 lo hi) 65)) := (Below.refl _ _).alloc (Nat.le_refl _) _
    refine (HE.out _ b0).mono ?_
    rintro e w1 ⟨rfl, b1⟩
    have g1 := b0.trans (b1.mono b0.size)
    clear b1 b0
    go_wp2_with fail
    go_ret2
    exact ⟨rfl, g1⟩
end
end Go.Proofs.Ytjfnhjmdgfkgnaa


/- The reference's Key at depth 2. -/
namespace Go.Proofs.Ytjfnhjmdgfkgnaa
open Go.RowKit Go.Proofs.Kit Go.Shelf
section
variable (ob : Option Addr) (m cb : Nat) (ol : Option Addr) (q cl : Nat) (bs : List Br) (lv : List Int) (d a0 a1 a2 lo hi : Int) (w : World)
set_option maxRecDepth 100000 in
set_option maxHeartbeats 4000000 in
theorem pkey2 (j : Nat) (R : List Int) (hj : j ≤ R.length) (hR : ∀ W, Below w.heap.size w W → Calls Try.prog 78 #[.agg (PC ob m cb ol q cl 2 a0 a1 (j : Int) lo hi), .int .i64 2] W fun e w' => ∃ v', e = .returned v' ∧ Owns .u64 32 W.heap.size w' v' R ∧ Below W.heap.size W w') :
    Calls Try.prog 73 #[.agg (PC ob m cb ol q cl 2 a0 a1 (j : Int) lo hi)] w fun e w' => e = .returned (.tuple #[.int .u64 ((R.drop j).headD 0), .bool (decide (j < R.length))]) ∧ Below w.heap.size w w' := by
  have HR := Lib.hid hR
  have HE := Lib.hid (fun W (g : Below w.heap.size w W) => pend2 ob m cb ol q cl a0 a1 lo hi W j R (fun W' g' => hR W' (below_later g g')))
  clear hR
  by_cases hlt : j < R.length
  · have hne : ((j : Int) == (R.length : Int)) = false := by simp; omega
    have hdl : decide (j < R.length) = true := by simpa using hlt
    rw [hdl]
    rw [hne] at HE
    have hhd : (R.drop j).headD 0 = R[j] := by rw [List.drop_eq_getElem_cons hlt]; rfl
    rw [hhd]
    obtain ⟨x, hx⟩ : ∃ x, x = R[j] := ⟨_, rfl⟩
    rw [← hx]
    have HX := Lib.hid hx
    have HLT := Lib.hid hlt
    have i1 : (0 : Int) ≤ (j : Int) := by omega
    have i2 : (j : Int) < (R.length : Int) := by omega
    clear hne hdl hhd hx hj
    go_enter Try.func73, Try.ntmps73
    go_wp2_with fail
    obtain ⟨W0, hW0⟩ : ∃ W0, W0 = w.alloc (.cells (PC ob m cb ol q cl 2 a0 a1 (j : Int) lo hi) 65) := ⟨_, rfl⟩
    have hws : Below w.heap.size w W0 ∧ Blk W0 w.heap.size (PC ob m cb ol q cl 2 a0 a1 (j : Int) lo hi) 65 := by rw [hW0]; exact ⟨(Below.refl _ _).alloc (Nat.le_refl _) _, Blk.new _ _ _⟩
    rw [← hW0]
    clear hW0
    refine (HE.out _ hws.1).mono ?_
    rintro e w1 ⟨rfl, b1⟩
    have hws : Below w.heap.size w w1 ∧ Blk w1 w.heap.size (PC ob m cb ol q cl 2 a0 a1 (j : Int) lo hi) 65 := ⟨hws.1.trans (b1.mono hws.1.size), hws.2.later b1⟩
    clear b1
    obtain ⟨z0, z1, z2, z3, z4, z5, z6, z7, zl⟩ : w1.cell? ⟨w.heap.size, 0, none⟩ = some (.slice ob m cb) ∧ w1.cell? ⟨w.heap.size, 1, none⟩ = some (.slice ol q cl) ∧ w1.cell? ⟨w.heap.size, 2, none⟩ = some (.int .i64 2) ∧ w1.cell? ⟨w.heap.size, 3, none⟩ = some (.int .i64 a0) ∧ w1.cell? ⟨w.heap.size, 4, none⟩ = some (.int .i64 a1) ∧ w1.cell? ⟨w.heap.size, 5, none⟩ = some (.int .i64 (j : Int)) ∧ w1.cell? ⟨w.heap.size, 6, none⟩ = some (.int .i64 lo) ∧ w1.cell? ⟨w.heap.size, 7, none⟩ = some (.int .i64 hi) ∧ w.heap.size < w1.heap.size := ⟨hws.2.cell 0, hws.2.cell 1, hws.2.cell 2, hws.2.cell 3, hws.2.cell 4, hws.2.cell 5, hws.2.cell 6, hws.2.cell 7, hws.2.lt⟩
    have HWS := Lib.hid hws
    clear hws
    go_wp2_with fail
    go_region_with (go_at_call 78; (with_reducible refine (HR.out _ (by first | exact HWS.out.1 | exact HWS.out.1.drew)).mono ?_); rintro e w3 ⟨v', rfl, hO, lF⟩; obtain ⟨o3, c3, rfl⟩ := hO.shape; obtain ⟨b3, f3, rfl, q1, q2, q3, hcell⟩ := segU_has hO.seg (Nat.lt_of_le_of_lt (Nat.zero_le _) HLT.out); have hxc := hcell j HLT.out; rw [← HX.out] at hxc; have hws : Below w.heap.size w w3 ∧ Blk w3 w.heap.size (PC ob m cb ol q cl 2 a0 a1 (j : Int) lo hi) 65 := (by first | exact ⟨HWS.out.1.trans (lF.mono HWS.out.1.size), HWS.out.2.later lF⟩ | exact ⟨HWS.out.1.drew.trans (lF.mono HWS.out.1.size), (HWS.out.2.later (Below.refl _ _).drew).later lF⟩); obtain ⟨t2, t3, t4, t5, tl⟩ : w3.cell? ⟨w.heap.size, 2, none⟩ = some (.int .i64 2) ∧ w3.cell? ⟨w.heap.size, 3, none⟩ = some (.int .i64 a0) ∧ w3.cell? ⟨w.heap.size, 4, none⟩ = some (.int .i64 a1) ∧ w3.cell? ⟨w.heap.size, 5, none⟩ = some (.int .i64 (j : Int)) ∧ w.heap.size < w3.heap.size := ⟨hws.2.cell 2, hws.2.cell 3, hws.2.cell 4, hws.2.cell 5, hws.2.lt⟩; clear hcell hO lF)
    all_goals
      have hlow := hws.1
      go_wp2_with fail
      go_ret2
      exact ⟨rfl, hlow⟩
  · have hjl : j = R.length := by omega
    have hne : ((j : Int) == (R.length : Int)) = true := by simp; omega
    rw [hne] at HE
    have hhd : (R.drop j).headD 0 = 0 := by rw [hjl]; simp
    rw [hhd, show decide (j < R.length) = false by simp; omega]
    clear hne hhd hlt hj hjl
    go_enter Try.func73, Try.ntmps73
    go_wp2_with fail
    have b0 : Below w.heap.size w (w.alloc (.cells (PC ob m cb ol q cl 2 a0 a1 (j : Int) lo hi) 65)) := (Below.refl _ _).alloc (Nat.le_refl _) _
    refine (HE.out _ b0).mono ?_
    rintro e w1 ⟨rfl, b1⟩
    have g1 := b0.trans (b1.mono b0.size)
    clear b1 b0
    go_wp2_with fail
    go_ret2
    exact ⟨rfl, g1⟩
end
end Go.Proofs.Ytjfnhjmdgfkgnaa


/- The reference's place: its row, its key, what is left, its path. -/
namespace Go.Proofs.Kit
open Go.RowKit
/-- A place of the reference: a depth, a place in each row, the least and the most steps. -/
structure PS where
  D : Nat
  a1 : Nat
  a2 : Nat
  lo : Nat
  hi : Nat
def r2At (bs : List Br) (lv : List Int) (i : Nat) : List Int := lvs lv (bs.getD i (0, 0, 0))
structure Pok (bs : List Br) (lv : List Int) (p : PS) : Prop where
  d2 : p.D ≤ 2
  b1 : 1 ≤ p.D → p.a1 ≤ bs.length
  b2 : p.D = 2 → p.a1 < bs.length ∧ p.a2 ≤ (r2At bs lv p.a1).length
/-- A cursor that stands there. -/
def csOf (bs : List Br) (lv : List Int) (p : PS) (s : Nat) : Cs :=
  ⟨p.D, if p.D = 0 then [] else (keysB bs).drop p.a1, if p.D = 2 then (r2At bs lv p.a1).drop p.a2 else [], s⟩
theorem csOf_row0 {bs : List Br} {lv : List Int} {p : PS} {s : Nat} (h : p.D = 0) : (csOf bs lv p s).row = [] := by unfold csOf Cs.row; simp [h]
theorem csOf_row1 {bs : List Br} {lv : List Int} {p : PS} {s : Nat} (h : p.D = 1) : (csOf bs lv p s).row = (keysB bs).drop p.a1 := by unfold csOf Cs.row; simp [h]
theorem csOf_row2 {bs : List Br} {lv : List Int} {p : PS} {s : Nat} (h : p.D = 2) : (csOf bs lv p s).row = (r2At bs lv p.a1).drop p.a2 := by unfold csOf Cs.row; simp [h]
theorem drop_ne {l : List Int} {j : Nat} (_h : j ≤ l.length) : decide (l.drop j ≠ []) = decide (j < l.length) := by
  rw [decide_eq_decide]
  constructor
  · intro hn
    rcases Nat.lt_or_ge j l.length with h' | h'
    · exact h'
    · exact absurd (List.drop_eq_nil_of_le h') hn
  · intro hj e
    have := congrArg List.length e
    simp at this
    omega
theorem drop_take1 (l : List Int) (j : Nat) : (l.drop j).take 1 = if _h : j < l.length then [l[j]] else [] := by
  split
  · rename_i h; rw [List.drop_eq_getElem_cons h]; rfl
  · rw [List.drop_eq_nil_of_le (by omega)]; rfl
theorem keysB_at {bs : List Br} {i : Nat} (h : i < (keysB bs).length) : (keysB bs)[i] = (bs[i]'(by simpa [keysB] using h)).1 := by simp [keysB]
theorem r2At_of {bs : List Br} {lv : List Int} {i : Nat} (h : i < bs.length) : r2At bs lv i = lvs lv bs[i] := by unfold r2At; rw [getD_of h]
theorem r2At_len (bs : List Br) (lv : List Int) (i : Nat) : (r2At bs lv i).length ≤ lv.length := lvs_le _ _
end Go.Proofs.Kit
namespace Go.Proofs.Ytjfnhjmdgfkgnaa
open Go.RowKit Go.Proofs.Kit Go.Shelf
/-- The place as a value. -/
abbrev PV8 (ob : Option Addr) (m cb : Nat) (ol : Option Addr) (q cl : Nat) (p : PS) : Value := .agg (PC ob m cb ol q cl (p.D : Int) 0 (p.a1 : Int) (p.a2 : Int) (p.lo : Int) (p.hi : Int))
/-- What is asked of the trie. -/
structure T8 (ob : Option Addr) (m cb : Nat) (ol : Option Addr) (q cl : Nat) (bs : List Br) (lv : List Int) (w : World) : Prop where
  b : SegR w (.slice ob m cb) bs
  l : Seg .u64 w (.slice ol q cl) lv
theorem T8.later {ob : Option Addr} {m cb : Nat} {ol : Option Addr} {q cl : Nat} {bs : List Br} {lv : List Int} {w w' : World} (h : T8 ob m cb ol q cl bs lv w) (g : Below w.heap.size w w') : T8 ob m cb ol q cl bs lv w' := ⟨h.b.later g, h.l.later g⟩
section
variable {ob : Option Addr} {m cb : Nat} {ol : Option Addr} {q cl : Nat} {bs : List Br} {lv : List Int} {w : World} {d a0 a2 lo hi : Int}
theorem prowA (h : T8 ob m cb ol q cl bs lv w) (hbs : bs.length ≤ 100) (a1 : Int) :
    Calls Try.prog 78 #[.agg (PC ob m cb ol q cl d a0 a1 a2 lo hi), .int .i64 1] w fun e w' => ∃ v', e = .returned v' ∧ Owns .u64 32 w.heap.size w' v' (keysB bs) ∧ Below w.heap.size w w' :=
  prow1 ob m cb ol q cl bs lv d a0 a1 a2 lo hi w h.b h.l (by omega)
theorem prowB (h : T8 ob m cb ol q cl bs lv w) (hbs : bs.length ≤ 100) (hls : lv.length ≤ 100) (hok : ok7 bs lv) (i : Nat) (hi9 : i < bs.length) :
    Calls Try.prog 78 #[.agg (PC ob m cb ol q cl d a0 (i : Int) a2 lo hi), .int .i64 2] w fun e w' => ∃ v', e = .returned v' ∧ Owns .u64 32 w.heap.size w' v' (r2At bs lv i) ∧ Below w.heap.size w w' := by
  have hm : bs.length = m := segR_lenV h.b
  obtain ⟨B, F, rfl, -, -, -, hB, hc⟩ := h.b.has hi9
  have hk := (hc i hi9).1
  have hz := zk1_at (lv := lv) (keysB_inc hok.2.1) hi9
  have hp := prow2 m cb ol q cl bs lv d a0 a2 lo hi w B F i bs[i].1 2 (by decide) h.b h.l (by omega) (by omega) hok.2.1 (by omega) hB hk
  rw [hz, ← r2At_of hi9] at hp
  exact hp
set_option maxRecDepth 100000 in
theorem pKey_any (p : PS) (h : T8 ob m cb ol q cl bs lv w) (hbs : bs.length ≤ 100) (hls : lv.length ≤ 100) (hok : ok7 bs lv) (hp : Pok bs lv p) (s : Nat) :
    Calls Try.prog 73 #[PV8 ob m cb ol q cl p] w fun e w' => e = .returned (.tuple #[.int .u64 (ckey (csOf bs lv p s)), .bool (decide ((csOf bs lv p s).row ≠ []))]) ∧ Below w.heap.size w w' := by
  obtain ⟨D, a1, a2, lo, hi⟩ := p
  obtain ⟨hd, h1, h2⟩ := hp
  simp only at hd h1 h2
  unfold ckey
  rcases (show D = 0 ∨ D = 1 ∨ D = 2 by omega) with rfl | rfl | rfl
  · rw [csOf_row0 rfl]
    go_enter Try.func73, Try.ntmps73
    go_wp2_with fail
    go_ret2
    exact ⟨rfl, (Gr.alloc _ _).below⟩
  · rw [csOf_row1 rfl, drop_ne (by rw [keysB_len]; exact h1 (by decide))]
    exact pkey1 ob m cb ol q cl 0 (a2 : Int) (lo : Int) (hi : Int) w a1 (keysB bs) (by rw [keysB_len]; exact h1 (by decide)) (fun W g => prowA (h.later g) hbs _)
  · rw [csOf_row2 rfl, drop_ne (h2 rfl).2]
    exact pkey2 ob m cb ol q cl 0 (a1 : Int) (lo : Int) (hi : Int) w a2 (r2At bs lv a1) (h2 rfl).2 (fun W g => prowB (h.later g) hbs hls hok a1 (h2 rfl).1)
set_option maxRecDepth 100000 in
theorem pLeft_any (p : PS) (h : T8 ob m cb ol q cl bs lv w) (hbs : bs.length ≤ 100) (hls : lv.length ≤ 100) (hok : ok7 bs lv) (hp : Pok bs lv p) (s : Nat) :
    Calls Try.prog 75 #[PV8 ob m cb ol q cl p] w fun e w' => e = .returned (.int .i64 ((csOf bs lv p s).row.length : Int)) ∧ Below w.heap.size w w' := by
  obtain ⟨D, a1, a2, lo, hi⟩ := p
  obtain ⟨hd, h1, h2⟩ := hp
  simp only at hd h1 h2
  rcases (show D = 0 ∨ D = 1 ∨ D = 2 by omega) with rfl | rfl | rfl
  · rw [csOf_row0 rfl]
    go_enter Try.func75, Try.ntmps75
    go_wp2_with fail
    go_ret
    exact ⟨rfl, (Gr.alloc _ _).below⟩
  · rw [csOf_row1 rfl, List.length_drop]
    exact pleft1 ob m cb ol q cl 0 (a2 : Int) (lo : Int) (hi : Int) w a1 (keysB bs) (by rw [keysB_len]; exact h1 (by decide)) (by rw [keysB_len]; omega) (fun W g => prowA (h.later g) hbs _)
  · rw [csOf_row2 rfl, List.length_drop]
    exact pleft2 ob m cb ol q cl 0 (a1 : Int) (lo : Int) (hi : Int) w a2 (r2At bs lv a1) (h2 rfl).2 (by have := r2At_len bs lv a1; omega) (fun W g => prowB (h.later g) hbs hls hok a1 (h2 rfl).1)
theorem pEnd_any (p : PS) (h : T8 ob m cb ol q cl bs lv w) (hbs : bs.length ≤ 100) (hls : lv.length ≤ 100) (hok : ok7 bs lv) (hp : Pok bs lv p) (hD : 0 < p.D) (s : Nat) :
    Calls Try.prog 113 #[PV8 ob m cb ol q cl p] w fun e w' => e = .returned (.bool (decide ((csOf bs lv p s).row = []))) ∧ Below w.heap.size w w' := by
  obtain ⟨D, a1, a2, lo, hi⟩ := p
  obtain ⟨hd, h1, h2⟩ := hp
  simp only at hd h1 h2 hD
  have key : ∀ (R : List Int) (j : Nat), j ≤ R.length → decide (R.drop j = []) = ((j : Int) == (R.length : Int)) := fun R j hj => by
    rw [Bool.eq_iff_iff]
    simp only [decide_eq_true_eq, beq_iff_eq, List.drop_eq_nil_iff]
    omega
  rcases (show D = 1 ∨ D = 2 by omega) with rfl | rfl
  · have hj : a1 ≤ (keysB bs).length := by rw [keysB_len]; exact h1 (by decide)
    rw [csOf_row1 rfl, key _ _ hj]
    exact pend1 ob m cb ol q cl 0 (a2 : Int) (lo : Int) (hi : Int) w a1 (keysB bs) (fun W g => prowA (h.later g) hbs _)
  · rw [csOf_row2 rfl, key _ _ (h2 rfl).2]
    exact pend2 ob m cb ol q cl 0 (a1 : Int) (lo : Int) (hi : Int) w a2 (r2At bs lv a1) (fun W g => prowB (h.later g) hbs hls hok a1 (h2 rfl).1)
end
end Go.Proofs.Ytjfnhjmdgfkgnaa


/- The reference's place: its path, and why a move can't be made. -/
namespace Go.Proofs.Ytjfnhjmdgfkgnaa
open Go.RowKit Go.Proofs.Kit Go.Shelf
theorem pc_blk {ob : Option Addr} {m cb : Nat} {ol : Option Addr} {q cl : Nat} {d a0 a1 a2 lo hi : Int} (w : World) : Blk (w.alloc (.cells (PC ob m cb ol q cl d a0 a1 a2 lo hi) 65)) w.heap.size (PC ob m cb ol q cl d a0 a1 a2 lo hi) 65 := Blk.new _ _ _
theorem pc_cells {ob : Option Addr} {m cb : Nat} {ol : Option Addr} {q cl : Nat} {d a0 a1 a2 lo hi : Int} {w : World} {g : Nat} (h : Blk w g (PC ob m cb ol q cl d a0 a1 a2 lo hi) 65) :
    w.cell? ⟨g, 0, none⟩ = some (.slice ob m cb) ∧ w.cell? ⟨g, 1, none⟩ = some (.slice ol q cl) ∧ w.cell? ⟨g, 2, none⟩ = some (.int .i64 d) ∧ w.cell? ⟨g, 3, none⟩ = some (.int .i64 a0) ∧ w.cell? ⟨g, 4, none⟩ = some (.int .i64 a1) ∧ w.cell? ⟨g, 5, none⟩ = some (.int .i64 a2) ∧ w.cell? ⟨g, 6, none⟩ = some (.int .i64 lo) ∧ w.cell? ⟨g, 7, none⟩ = some (.int .i64 hi) ∧ g < w.heap.size :=
  ⟨h.cell 0, h.cell 1, h.cell 2, h.cell 3, h.cell 4, h.cell 5, h.cell 6, h.cell 7, h.lt⟩
section
variable {ob : Option Addr} {m cb : Nat} {ol : Option Addr} {q cl : Nat} {bs : List Br} {lv : List Int} {w : World}
set_option maxRecDepth 100000 in
set_option maxHeartbeats 4000000 in
theorem pPath_any (p : PS) (h : T8 ob m cb ol q cl bs lv w) (hbs : bs.length ≤ 100) (hls : lv.length ≤ 100) (hok : ok7 bs lv) (hp : Pok bs lv p) (s : Nat) :
    Calls Try.prog 74 #[PV8 ob m cb ol q cl p] w fun e w' => ∃ v', e = .returned v' ∧ Owns .u64 32 w.heap.size w' v' (cpath (csOf bs lv p s)) ∧ Below w.heap.size w w' := by
  obtain ⟨i0, hi0, hz0, hz1, hz2⟩ := infou
  obtain ⟨D, a1, a2, lo, hi⟩ := p
  obtain ⟨hd, h1, h2⟩ := hp
  simp only at hd h1 h2
  have HP0 := Lib.hid (show D = 0 → cpath (csOf bs lv ⟨D, a1, a2, lo, hi⟩ s) = [] from by rintro rfl; rfl)
  have HP1 := Lib.hid (show 1 ≤ D → cpath (csOf bs lv ⟨D, a1, a2, lo, hi⟩ s) = ((keysB bs).drop a1).take 1 ++ (if D = 2 then (r2At bs lv a1).drop a2 else []).take 1 from by intro hD; unfold cpath csOf; simp only; rw [if_neg (by omega)])
  have HR1 := Lib.hid (fun W (g : Below w.heap.size w W) => prowA (d := (D : Int)) (a0 := 0) (a2 := (a2 : Int)) (lo := (lo : Int)) (hi := (hi : Int)) (h.later g) hbs (a1 : Int))
  have HR2 := Lib.hid (fun W (g : Below w.heap.size w W) (hD : D = 2) => prowB (d := (D : Int)) (a0 := 0) (a2 := (a2 : Int)) (lo := (lo : Int)) (hi := (hi : Int)) (h.later g) hbs hls hok a1 (h2 hD).1)
  have HK1 := Lib.hid (show (keysB bs).length ≤ 100 from by rw [keysB_len]; exact hbs)
  have HK2 := Lib.hid (show (r2At bs lv a1).length ≤ 100 from by have := r2At_len bs lv a1; omega)
  have HB1 := Lib.hid (fun hD => show a1 ≤ (keysB bs).length from by rw [keysB_len]; exact h1 hD)
  have HB2 := Lib.hid h2
  obtain ⟨K1, hK1⟩ : ∃ K1, K1 = keysB bs := ⟨_, rfl⟩
  obtain ⟨K2, hK2⟩ : ∃ K2, K2 = r2At bs lv a1 := ⟨_, rfl⟩
  rw [← hK1] at HP1 HR1 HK1 HB1
  rw [← hK2] at HP1 HR2 HK2
  obtain ⟨CP, hCP⟩ : ∃ CP, CP = cpath (csOf bs lv ⟨D, a1, a2, lo, hi⟩ s) := ⟨_, rfl⟩
  rw [← hCP] at HP0 HP1 ⊢
  clear h hbs hls hok h1 h2 hK1 hK2 hCP
  go_enter Try.func74, Try.ntmps74
  go_wp2_with fail
  obtain ⟨W0, hW0⟩ : ∃ W0, W0 = w.alloc (.cells (PC ob m cb ol q cl (D : Int) 0 (a1 : Int) (a2 : Int) (lo : Int) (hi : Int)) 65) := ⟨_, rfl⟩
  have HB0 := Lib.hid (show Blk W0 w.heap.size (PC ob m cb ol q cl (D : Int) 0 (a1 : Int) (a2 : Int) (lo : Int) (hi : Int)) 65 from by rw [hW0]; exact Blk.new _ _ _)
  have LO0 := Lib.hid (show Below w.heap.size w W0 from by rw [hW0]; exact (Gr.alloc _ _).below)
  rw [← hW0]
  clear hW0
  go_loopw [3, 4] (fun o i wr => ∃ d : Nat, 1 ≤ d ∧ d ≤ D + 1 ∧ i = .int .i64 (d : Int) ∧ Hid (Owns .u64 32 W0.heap.size wr o (if d = 1 then [] else if d = 2 then (K1.drop a1).take 1 else (K1.drop a1).take 1 ++ (K2.drop a2).take 1)) ∧ Hid (Below W0.heap.size W0 wr)) (fun _ i _ => 4 - (intOf i).toNat)
  case atStart => exact ⟨1, by omega, by omega, rfl, Lib.hid (by simpa using Owns.nil _ _ _ _), Lib.hid (Below.refl _ _)⟩
  case round =>
    obtain ⟨d, hd1, hdD, rfl, HO, HB⟩ := hrel
    obtain ⟨c0, c1, c2, c3, c4, c5, c6, c7, lc⟩ := pc_cells (HB0.out.later HB.out)
    have LOW := Lib.hid (below_later LO0.out HB.out)
    by_cases hlt : d ≤ D
    · rcases (show d = 1 ∨ d = 2 by omega) with rfl | rfl
      · have t1 : decide ((1 : Int) ≤ (D : Int)) = true := by simp; omega
        have hO0 := HO.out
        rw [if_pos rfl] at hO0
        have HO0 := Lib.hid hO0
        clear hO0 HO
        go_wp2_with fail
        refine (HR1.out _ LOW.out).mono ?_
        rintro e w1 ⟨v1, rfl, hR, l1⟩
        have LOW := Lib.hid (below_later LOW.out l1)
        have HB := Lib.hid (below_later HB.out l1)
        have HO0 := Lib.hid (HO0.out.later l1)
        have hsg := hR.seg
        obtain ⟨o1, x1c, e1, -⟩ := hsg.shape
        obtain ⟨n1, hn1⟩ : ∃ n1, n1 = K1.length := ⟨_, rfl⟩
        rw [← hn1] at e1
        subst e1
        obtain ⟨c0, c1, c2, c3, c4, c5, c6, c7, lc⟩ := pc_cells (HB0.out.later HB.out)
        clear hR l1
        by_cases hin : a1 < n1
        · have hlt1 : a1 < K1.length := by omega
          have HTK := Lib.hid (show (K1.drop a1).take 1 = [K1[a1]] from by rw [drop_take1, dif_pos hlt1])
          obtain ⟨b, f, rfl, hbl, hcl⟩ : ∃ b f, o1 = some ⟨b, f, none⟩ ∧ b < w1.heap.size ∧ w1.cell? ⟨b, f + a1, none⟩ = some (.int .u64 K1[a1]) := by
            rcases hsg.2 with ⟨_, e⟩ | ⟨b, off, cap, e, _, _, h4, h5⟩
            · rw [e] at hlt1; simp at hlt1
            · injection e with e1 _ _
              exact ⟨b, off, e1, h4, h5 a1 hlt1⟩
          obtain ⟨x, hx⟩ : ∃ x, x = K1[a1] := ⟨_, rfl⟩
          rw [← hx] at hcl HTK
          have HN1 := Lib.hid hn1
          clear hx hlt1 hn1 hsg
          have HO2 := Lib.hid (HO0.out.alloc (.cells #[.int .u64 x] 32))
          have HSG := Lib.hid (Seg.one (k := .u64) (w := w1) (t := 32) x)
          have HB2 := Lib.hid (HB.out.alloc HB.out.size (.cells #[.int .u64 x] 32))
          go_wp2_with (at_builtin; refine wpList_append_seg rfl _ _ 23 rfl .u64 W0.heap.size 32 i0 (.int .u64 0) 8 Try.underlying23 hi0 hz0 hz1 hz2 rfl _ _ rfl HO2.out _ [x] rfl HSG.out ?qd ?qe ?qf ?_)
          case qd => simp only [List.length_cons, List.length_nil]; omega
          case qe => simp only [List.length_cons, List.length_nil]; omega
          case qf => have := HB.out.size; simp; omega
          intro v3 w3 hO3 hb3
          have O3 := Lib.hid hO3
          have B3 := Lib.hid (HB2.out.trans hb3)
          clear hO3 hb3
          go_wp2
          go_roundw
          case rel => exact ⟨1 + 1, by omega, by omega, rfl, Lib.hid (by rw [if_neg (by decide), if_pos rfl, HTK.out]; exact O3.out), B3⟩
          case measure => simp [intOf]
        · have HTK := Lib.hid (show (K1.drop a1).take 1 = [] from by rw [drop_take1, dif_neg (by omega)])
          clear hn1 hsg
          go_wp2
          go_roundw
          case rel => exact ⟨1 + 1, by omega, by omega, rfl, Lib.hid (by rw [if_neg (by decide), if_pos rfl, HTK.out]; exact HO0.out), HB⟩
          case measure => simp [intOf]
      · have t1 : decide ((2 : Int) ≤ (D : Int)) = true := by simp; omega
        have hO0 := HO.out
        rw [if_neg (by decide), if_pos rfl] at hO0
        obtain ⟨L0, hL0⟩ : ∃ L0, L0 = (K1.drop a1).take 1 := ⟨_, rfl⟩
        have hL0l : L0.length ≤ 1 := by rw [hL0, List.length_take]; omega
        rw [← hL0] at hO0
        have HL0 := Lib.hid hL0
        clear hL0
        have HO0 := Lib.hid hO0
        clear hO0 HO
        go_wp2_with fail
        refine (HR2.out _ LOW.out (by omega)).mono ?_
        rintro e w1 ⟨v1, rfl, hR, l1⟩
        have LOW := Lib.hid (below_later LOW.out l1)
        have HB := Lib.hid (below_later HB.out l1)
        have HO0 := Lib.hid (HO0.out.later l1)
        have hsg := hR.seg
        obtain ⟨o1, x1c, e1, -⟩ := hsg.shape
        obtain ⟨n1, hn1⟩ : ∃ n1, n1 = K2.length := ⟨_, rfl⟩
        rw [← hn1] at e1
        subst e1
        obtain ⟨c0, c1, c2, c3, c4, c5, c6, c7, lc⟩ := pc_cells (HB0.out.later HB.out)
        clear hR l1
        by_cases hin : a2 < n1
        · have hlt1 : a2 < K2.length := by omega
          have HTK := Lib.hid (show (K2.drop a2).take 1 = [K2[a2]] from by rw [drop_take1, dif_pos hlt1])
          obtain ⟨b, f, rfl, hbl, hcl⟩ : ∃ b f, o1 = some ⟨b, f, none⟩ ∧ b < w1.heap.size ∧ w1.cell? ⟨b, f + a2, none⟩ = some (.int .u64 K2[a2]) := by
            rcases hsg.2 with ⟨_, e⟩ | ⟨b, off, cap, e, _, _, h4, h5⟩
            · rw [e] at hlt1; simp at hlt1
            · injection e with e1 _ _
              exact ⟨b, off, e1, h4, h5 a2 hlt1⟩
          obtain ⟨x, hx⟩ : ∃ x, x = K2[a2] := ⟨_, rfl⟩
          rw [← hx] at hcl HTK
          have HN1 := Lib.hid hn1
          clear hx hlt1 hn1 hsg
          have HO2 := Lib.hid (HO0.out.alloc (.cells #[.int .u64 x] 32))
          have HSG := Lib.hid (Seg.one (k := .u64) (w := w1) (t := 32) x)
          have HB2 := Lib.hid (HB.out.alloc HB.out.size (.cells #[.int .u64 x] 32))
          go_wp2_with (at_builtin; refine wpList_append_seg rfl _ _ 23 rfl .u64 W0.heap.size 32 i0 (.int .u64 0) 8 Try.underlying23 hi0 hz0 hz1 hz2 rfl _ _ rfl HO2.out _ [x] rfl HSG.out ?qd ?qe ?qf ?_)
          case qd => simp only [List.length_cons, List.length_nil]; omega
          case qe => simp only [List.length_cons, List.length_nil]; omega
          case qf => have := HB.out.size; simp; omega
          intro v3 w3 hO3 hb3
          have O3 := Lib.hid hO3
          have B3 := Lib.hid (HB2.out.trans hb3)
          clear hO3 hb3
          go_wp2
          go_roundw
          case rel => exact ⟨2 + 1, by omega, by omega, rfl, Lib.hid (by rw [if_neg (by decide), if_neg (by decide), ← HL0.out, HTK.out]; exact O3.out), B3⟩
          case measure => simp [intOf]
        · have HTK := Lib.hid (show (K2.drop a2).take 1 = [] from by rw [drop_take1, dif_neg (by omega)])
          clear hn1 hsg
          go_wp2
          go_roundw
          case rel => exact ⟨2 + 1, by omega, by omega, rfl, Lib.hid (by rw [if_neg (by decide), if_neg (by decide), ← HL0.out, HTK.out, List.append_nil]; exact HO0.out), HB⟩
          case measure => simp [intOf]
    · have t0 : decide ((d : Int) ≤ (D : Int)) = false := by simp; omega
      have HOE := Lib.hid (show CP = (if d = 1 then [] else if d = 2 then (K1.drop a1).take 1 else (K1.drop a1).take 1 ++ (K2.drop a2).take 1) from by
        rcases (show D = 0 ∨ D = 1 ∨ D = 2 by omega) with e | e | e
        · rw [HP0.out e, if_pos (by omega)]
        · rw [HP1.out (by omega), if_neg (by omega), if_neg (by omega), if_pos (by omega), List.take_nil, List.append_nil]
        · rw [HP1.out (by omega), if_pos e, if_neg (by omega), if_neg (by omega)])
      clear c0 c1 c3 c4 c5 c6 c7
      go_wp2
      go_ret
      exact ⟨_, rfl, by rw [HOE.out]; exact HO.out.mono LO0.out.size, LOW.out⟩
end
end Go.Proofs.Ytjfnhjmdgfkgnaa


/- The reference's place: why a move can't be made. -/
namespace Go.Proofs.Ytjfnhjmdgfkgnaa
open Go.RowKit Go.Proofs.Kit Go.Shelf
section
variable {ob : Option Addr} {m cb : Nat} {ol : Option Addr} {q cl : Nat} {bs : List Br} {lv : List Int} {w : World}
set_option maxRecDepth 100000 in
set_option maxHeartbeats 1000000 in
theorem pend0 (a1 a2 lo hi : Int) : Calls Try.prog 113 #[.agg (PC ob m cb ol q cl 0 0 a1 a2 lo hi)] w fun e w' => e = .returned (.bool false) ∧ Below w.heap.size w w' := by
  go_enter Try.func113, Try.ntmps113
  go_wp2_with fail
  obtain ⟨W0, hW0⟩ : ∃ W0, W0 = w.alloc (.cells (PC ob m cb ol q cl 0 0 a1 a2 lo hi) 65) := ⟨_, rfl⟩
  have HB0 := Lib.hid (show Blk W0 w.heap.size (PC ob m cb ol q cl 0 0 a1 a2 lo hi) 65 from by rw [hW0]; exact Blk.new _ _ _)
  have LO0 := Lib.hid (show Below w.heap.size w W0 from by rw [hW0]; exact (Gr.alloc _ _).below)
  rw [← hW0]
  clear hW0
  obtain ⟨c0, c1, c2, c3, c4, c5, c6, c7, lc⟩ := pc_cells HB0.out
  go_quiet (fail)
  have LO1 := Lib.hid (below_drN LO0.out nq)
  go_wp2
  go_ret
  exact ⟨rfl, LO1.out⟩
theorem cerr_lt {k : Int} {X : Cs} (h : k < 1 ∨ 4 < k) : cerr k X = 180 := if_pos h
set_option maxRecDepth 100000 in
set_option maxHeartbeats 4000000 in
theorem pWhy_any (p : PS) (h : T8 ob m cb ol q cl bs lv w) (hbs : bs.length ≤ 100) (hls : lv.length ≤ 100) (hok : ok7 bs lv) (hp : Pok bs lv p) (s : Nat) (k key : Int) :
    Calls Try.prog 76 #[PV8 ob m cb ol q cl p, .agg #[.int .i64 k, .int .u64 key]] w fun e w' => e = .returned (.int .i64 (cerr k (csOf bs lv p s))) ∧ Below w.heap.size w w' := by
  have HE := Lib.hid (fun W (g : Below w.heap.size w W) (hD : 0 < p.D) => pEnd_any p (h.later g) hbs hls hok hp hD s)
  have hcd : (csOf bs lv p s).d = p.D := rfl
  obtain ⟨E, hE⟩ : ∃ E, E = decide ((csOf bs lv p s).row = []) := ⟨_, rfl⟩
  rw [← hE] at HE
  obtain ⟨cc, hcc⟩ : ∃ cc, cc = cerr k (csOf bs lv p s) := ⟨_, rfl⟩
  rw [← hcc]
  have hd := hp.d2
  obtain ⟨D, a1, a2, lo, hi⟩ := p
  simp only at hd hcd HE
  have HCC := Lib.hid (show cc = if k < 1 ∨ 4 < k then 180 else if (k = 1 ∧ D = 2) ∨ (k ≠ 1 ∧ D = 0) then 2 else if k ≠ 2 ∧ 0 < D ∧ E = true then 4 else 0 from by
    rw [hcc, hE]
    unfold cerr
    rw [hcd]
    simp only [decide_eq_true_eq])
  clear hcc hE hcd hp h hbs hls hok
  obtain ⟨W0, hW0⟩ : ∃ W0, W0 = (w.alloc (.cells (PC ob m cb ol q cl (D : Int) 0 (a1 : Int) (a2 : Int) (lo : Int) (hi : Int)) 65)).alloc (.cells #[.int .i64 k, .int .u64 key] 70) := ⟨_, rfl⟩
  have HB0 := Lib.hid (show Blk W0 w.heap.size (PC ob m cb ol q cl (D : Int) 0 (a1 : Int) (a2 : Int) (lo : Int) (hi : Int)) 65 from by rw [hW0]; exact (Blk.new _ _ _).later (Gr.alloc _ _).below)
  have HK0 := Lib.hid (show Blk W0 (w.heap.size + 1) #[.int .i64 k, .int .u64 key] 70 from by rw [hW0]; simpa using Blk.new (w.alloc (.cells (PC ob m cb ol q cl (D : Int) 0 (a1 : Int) (a2 : Int) (lo : Int) (hi : Int)) 65)) #[.int .i64 k, .int .u64 key] 70)
  have LO0 := Lib.hid (show Below w.heap.size w W0 from by rw [hW0]; exact ((Gr.alloc _ _).trans (Gr.alloc _ _)).below)
  obtain ⟨c0, c1, c2, c3, c4, c5, c6, c7, lc⟩ := pc_cells HB0.out
  obtain ⟨e0, e1, el⟩ := HK0.out.two
  go_enter Try.func76, Try.ntmps76
  go_upto_region 1 with fail
  rw [← hW0]
  clear hW0
  by_cases k1 : k < 1
  · have HC := Lib.hid (show cc = 180 from by rw [HCC.out, if_pos (.inl k1)])
    have t1 : decide (k < 1) = true := decide_eq_true k1
    go_wp2_with fail
    go_ret
    exact ⟨by rw [HC.out]; rfl, LO0.out⟩
  by_cases k4 : 4 < k
  · have HC := Lib.hid (show cc = 180 from by rw [HCC.out, if_pos (.inr k4)])
    have t1 : decide (k < 1) = false := decide_eq_false k1
    have t2 : decide (4 < k) = true := decide_eq_true k4
    go_wp2_with fail
    go_ret
    exact ⟨by rw [HC.out]; rfl, LO0.out⟩
  rcases (show k = 1 ∨ k = 2 ∨ k = 3 ∨ k = 4 by omega) with rfl | rfl | rfl | rfl
  · rcases (show D = 0 ∨ D = 1 ∨ D = 2 by omega) with rfl | rfl | rfl
    · have HC := Lib.hid (show cc = 0 from by rw [HCC.out]; rfl)
      go_wp2_with fail
      refine (pend0 _ _ _ _).mono ?_
      rintro e w1 ⟨rfl, l1⟩
      have LO0 := Lib.hid (below_later LO0.out l1)
      clear l1
      go_wp2_with fail
      go_ret
      exact ⟨by rw [HC.out]; rfl, LO0.out⟩
    · go_wp2_with fail
      refine (HE.out _ LO0.out (by decide)).mono ?_
      rintro e w1 ⟨rfl, l1⟩
      have LO0 := Lib.hid (below_later LO0.out l1)
      clear l1
      cases E with
      | true =>
        have HC := Lib.hid (show cc = 4 from by rw [HCC.out]; rfl)
        go_wp2_with fail
        go_ret
        exact ⟨by rw [HC.out]; rfl, LO0.out⟩
      | false =>
        have HC := Lib.hid (show cc = 0 from by rw [HCC.out]; rfl)
        go_wp2_with fail
        go_ret
        exact ⟨by rw [HC.out]; rfl, LO0.out⟩
    · have HC := Lib.hid (show cc = 2 from by rw [HCC.out]; rfl)
      go_wp2_with fail
      go_ret
      exact ⟨by rw [HC.out]; rfl, LO0.out⟩
  · rcases (show D = 0 ∨ D = 1 ∨ D = 2 by omega) with rfl | rfl | rfl
    · have HC := Lib.hid (show cc = 2 from by rw [HCC.out]; rfl)
      go_wp2_with fail
      go_ret
      exact ⟨by rw [HC.out]; rfl, LO0.out⟩
    · have HC := Lib.hid (show cc = 0 from by rw [HCC.out]; rfl)
      go_wp2_with fail
      go_ret
      exact ⟨by rw [HC.out]; rfl, LO0.out⟩
    · have HC := Lib.hid (show cc = 0 from by rw [HCC.out]; rfl)
      go_wp2_with fail
      go_ret
      exact ⟨by rw [HC.out]; rfl, LO0.out⟩
  · rcases (show D = 0 ∨ D = 1 ∨ D = 2 by omega) with rfl | rfl | rfl
    · have HC := Lib.hid (show cc = 2 from by rw [HCC.out]; rfl)
      go_wp2_with fail
      go_ret
      exact ⟨by rw [HC.out]; rfl, LO0.out⟩
    · go_wp2_with fail
      refine (HE.out _ LO0.out (by decide)).mono ?_
      rintro e w1 ⟨rfl, l1⟩
      have LO0 := Lib.hid (below_later LO0.out l1)
      clear l1
      cases E with
      | true =>
        have HC := Lib.hid (show cc = 4 from by rw [HCC.out]; rfl)
        go_wp2_with fail
        go_ret
        exact ⟨by rw [HC.out]; rfl, LO0.out⟩
      | false =>
        have HC := Lib.hid (show cc = 0 from by rw [HCC.out]; rfl)
        go_wp2_with fail
        go_ret
        exact ⟨by rw [HC.out]; rfl, LO0.out⟩
    · go_wp2_with fail
      refine (HE.out _ LO0.out (by decide)).mono ?_
      rintro e w1 ⟨rfl, l1⟩
      have LO0 := Lib.hid (below_later LO0.out l1)
      clear l1
      cases E with
      | true =>
        have HC := Lib.hid (show cc = 4 from by rw [HCC.out]; rfl)
        go_wp2_with fail
        go_ret
        exact ⟨by rw [HC.out]; rfl, LO0.out⟩
      | false =>
        have HC := Lib.hid (show cc = 0 from by rw [HCC.out]; rfl)
        go_wp2_with fail
        go_ret
        exact ⟨by rw [HC.out]; rfl, LO0.out⟩
  · rcases (show D = 0 ∨ D = 1 ∨ D = 2 by omega) with rfl | rfl | rfl
    · have HC := Lib.hid (show cc = 2 from by rw [HCC.out]; rfl)
      go_wp2_with fail
      go_ret
      exact ⟨by rw [HC.out]; rfl, LO0.out⟩
    · go_wp2_with fail
      refine (HE.out _ LO0.out (by decide)).mono ?_
      rintro e w1 ⟨rfl, l1⟩
      have LO0 := Lib.hid (below_later LO0.out l1)
      clear l1
      cases E with
      | true =>
        have HC := Lib.hid (show cc = 4 from by rw [HCC.out]; rfl)
        go_wp2_with fail
        go_ret
        exact ⟨by rw [HC.out]; rfl, LO0.out⟩
      | false =>
        have HC := Lib.hid (show cc = 0 from by rw [HCC.out]; rfl)
        go_wp2_with fail
        go_ret
        exact ⟨by rw [HC.out]; rfl, LO0.out⟩
    · go_wp2_with fail
      refine (HE.out _ LO0.out (by decide)).mono ?_
      rintro e w1 ⟨rfl, l1⟩
      have LO0 := Lib.hid (below_later LO0.out l1)
      clear l1
      cases E with
      | true =>
        have HC := Lib.hid (show cc = 4 from by rw [HCC.out]; rfl)
        go_wp2_with fail
        go_ret
        exact ⟨by rw [HC.out]; rfl, LO0.out⟩
      | false =>
        have HC := Lib.hid (show cc = 0 from by rw [HCC.out]; rfl)
        go_wp2_with fail
        go_ret
        exact ⟨by rw [HC.out]; rfl, LO0.out⟩
end
end Go.Proofs.Ytjfnhjmdgfkgnaa


/- Does a cursor stand at a place? -/
namespace Go.Proofs.Ytjfnhjmdgfkgnaa
open Go.RowKit Go.Proofs.Kit Go.Shelf
section
variable {ob : Option Addr} {m cb : Nat} {ol : Option Addr} {q cl : Nat} {bs : List Br} {lv : List Int} {w : World}
set_option maxRecDepth 100000 in
set_option maxHeartbeats 8000000 in
theorem stands_any {lo r : Nat} (p : PS) (s : Nat) (hC : Cur lo r w bs lv (csOf bs lv p s)) (h : T8 ob m cb ol q cl bs lv w) (hbs : bs.length ≤ 100) (hls : lv.length ≤ 100) (hok : ok7 bs lv) (hp : Pok bs lv p) (h1 : p.lo ≤ s) (h2 : s ≤ p.hi) :
    Calls Try.prog 35 #[.pointer (some ⟨r, 0, none⟩), PV8 ob m cb ol q cl p] w fun e w' => e = .returned (.bool true) ∧ Below w.heap.size w w' := by
  have HKK := Lib.hid (fun W (g : Below w.heap.size w W) => kKey_any (hC.later g))
  have HKD := Lib.hid (fun W (g : Below w.heap.size w W) => kDepth_any (hC.later g))
  have HKP := Lib.hid (fun W (g : Below w.heap.size w W) => kPath_any (hC.later g))
  have HKL := Lib.hid (fun W (g : Below w.heap.size w W) => kLeft_any (hC.later g))
  have HKS := Lib.hid (fun W (g : Below w.heap.size w W) => kSteps_any (hC.later g))
  have HPK := Lib.hid (fun W (g : Below w.heap.size w W) => pKey_any p (h.later g) hbs hls hok hp s)
  have HPP := Lib.hid (fun W (g : Below w.heap.size w W) => pPath_any p (h.later g) hbs hls hok hp s)
  have HPL := Lib.hid (fun W (g : Below w.heap.size w W) => pLeft_any p (h.later g) hbs hls hok hp s)
  have hd : (csOf bs lv p s).d = p.D := rfl
  have hs : (csOf bs lv p s).s = s := rfl
  rw [hd] at HKD
  rw [hs] at HKS
  obtain ⟨K, hK⟩ : ∃ K, K = ckey (csOf bs lv p s) := ⟨_, rfl⟩
  obtain ⟨O, hO⟩ : ∃ O, O = decide ((csOf bs lv p s).row ≠ []) := ⟨_, rfl⟩
  obtain ⟨P, hP⟩ : ∃ P, P = cpath (csOf bs lv p s) := ⟨_, rfl⟩
  obtain ⟨L, hL⟩ : ∃ L, L = (csOf bs lv p s).row.length := ⟨_, rfl⟩
  rw [← hK, ← hO] at HKK HPK
  rw [← hP] at HKP HPP
  rw [← hL] at HKL HPL
  obtain ⟨D, a1, a2, lo', hi'⟩ := p
  simp only at h1 h2 HKD
  have i1 : (lo' : Int) ≤ (s : Int) := by omega
  have i2 : (s : Int) ≤ (hi' : Int) := by omega
  clear hd hs hK hO hP hL hC h hbs hls hok hp h1 h2
  have hmix := mixed
  go_enter Try.func35, Try.ntmps35
  go_wp2_with fail
  obtain ⟨W0, hW0⟩ : ∃ W0, W0 = w.alloc (.cells (PC ob m cb ol q cl (D : Int) 0 (a1 : Int) (a2 : Int) (lo' : Int) (hi' : Int)) 65) := ⟨_, rfl⟩
  have HB0 := Lib.hid (show Blk W0 w.heap.size (PC ob m cb ol q cl (D : Int) 0 (a1 : Int) (a2 : Int) (lo' : Int) (hi' : Int)) 65 from by rw [hW0]; exact Blk.new _ _ _)
  have LO0 := Lib.hid (show Below w.heap.size w W0 from by rw [hW0]; exact (Gr.alloc _ _).below)
  rw [← hW0]
  clear hW0
  refine (HKK.out _ LO0.out).mono ?_
  rintro e w1 ⟨rfl, l1⟩
  have HB := Lib.hid (HB0.out.later l1)
  have LO := Lib.hid (below_later LO0.out l1)
  clear l1 HB0 LO0 HKK
  obtain ⟨c0, c1, c2, c3, c4, c5, c6, c7, lc⟩ := pc_cells HB.out
  go_wp2_with fail
  refine (HPK.out _ LO.out).mono ?_
  rintro e w2 ⟨rfl, l2⟩
  have HB := Lib.hid (HB.out.later l2)
  have LO := Lib.hid (below_later LO.out l2)
  clear l2 c0 c1 c2 c3 c4 c5 c6 c7 lc HPK
  have HCL := Lib.hid (fun W (g : Below w2.heap.size w2 W) => pc_cells (HB.out.later g))
  go_upto_region 3 with fail
  go_cut [4] (fun s wx => s = .bool true ∧ Hid (Below w2.heap.size w2 wx))
  case first =>
    have hws : Below w2.heap.size w2 w2 := Below.refl _ _
    go_region_held3 (fun W => (W.cell? ⟨w.heap.size, 0, none⟩ = some (.slice ob m cb) ∧ W.cell? ⟨w.heap.size, 1, none⟩ = some (.slice ol q cl) ∧ W.cell? ⟨w.heap.size, 2, none⟩ = some (.int .i64 (D : Int)) ∧ W.cell? ⟨w.heap.size, 3, none⟩ = some (.int .i64 0) ∧ W.cell? ⟨w.heap.size, 4, none⟩ = some (.int .i64 (a1 : Int)) ∧ W.cell? ⟨w.heap.size, 5, none⟩ = some (.int .i64 (a2 : Int)) ∧ W.cell? ⟨w.heap.size, 6, none⟩ = some (.int .i64 (lo' : Int)) ∧ W.cell? ⟨w.heap.size, 7, none⟩ = some (.int .i64 (hi' : Int)) ∧ w.heap.size < W.heap.size))
      (first | exact HCL.out _ hws | exact HCL.out _ hws.drew)
      (first
        | (go_at_call 44; (with_reducible refine (HKD.out _ (by first | exact below_later LO.out hws | exact below_later LO.out hws.drew)).mono ?_); rintro e w3 ⟨rfl, rfl⟩)
        | (go_at_call 39; (with_reducible refine (HKP.out _ (by first | exact below_later LO.out hws | exact below_later LO.out hws.drew)).mono ?_); rintro e w3 ⟨vA, rfl, hOA, lF⟩; have hws := (by first | exact below_later hws lF | exact below_later hws.drew lF : Below w2.heap.size w2 w3))
        | (go_at_call 74; (with_reducible refine (HPP.out _ (by first | exact below_later LO.out hws | exact below_later LO.out hws.drew)).mono ?_); rintro e w3 ⟨vB, rfl, hOB, lF⟩; have hOA := (by first | exact hOA.later lF | exact hOA.drew.later lF : Owns .u64 32 _ w3 vA P); have hws := (by first | exact below_later hws lF | exact below_later hws.drew lF : Below w2.heap.size w2 w3))
        | (go_at_call 15; (with_reducible refine (equalu_same (by first | exact hOA.seg | exact hOA.seg.drew) (by first | exact hOB.seg | exact hOB.seg.drew)).mono ?_); rintro e w3 ⟨rfl, lF⟩; have hws := (by first | exact below_later hws lF | exact below_later hws.drew lF : Below w2.heap.size w2 w3))
        | (go_at_call 45; (with_reducible refine (HKL.out _ (by first | exact below_later LO.out hws | exact below_later LO.out hws.drew)).mono ?_); rintro e w3 ⟨rfl, lF⟩; have hws := (by first | exact below_later hws lF | exact below_later hws.drew lF : Below w2.heap.size w2 w3))
        | (go_at_call 75; (with_reducible refine (HPL.out _ (by first | exact below_later LO.out hws | exact below_later LO.out hws.drew)).mono ?_); rintro e w3 ⟨rfl, lF⟩; have hws := (by first | exact below_later hws lF | exact below_later hws.drew lF : Below w2.heap.size w2 w3))
        | (go_at_call 37; (with_reducible refine (HKS.out _ (by first | exact below_later LO.out hws | exact below_later LO.out hws.drew)).mono ?_); rintro e w3 ⟨rfl, rfl⟩))
    all_goals
      go_wp2_with fail
      go_meet
      exact ⟨rfl, Lib.hid (by first | exact hws | exact hws.drew)⟩
  case rest =>
    obtain ⟨rfl, HWW⟩ := hcut
    have HF := Lib.hid (below_later LO.out HWW.out)
    go_wp2_with fail
    go_ret
    exact ⟨rfl, HF.out⟩
end
end Go.Proofs.Ytjfnhjmdgfkgnaa

