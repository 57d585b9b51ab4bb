/- WideMore's law. -/
import Derived.Test.YtfknocgmobddmaaG8
import Derived.Test.YtfknocgmobddmaaX4
import Derived.Test.YtfknocgmobddmaaKitB
import Derived.Deep.RegionHeld3
namespace Go.Proofs.Ytfknocgmobddmaa
open Go.RowKit Go.Proofs.Kit

theorem sumN_lt : ∀ {l : List (Int × Int)}, (∀ p ∈ l, Wp p) → sumN l ≤ l.length * Big
  | [], _ => by simp [sumN]
  | p :: t, h => by
    have h1 := (num_pos (h p (by simp))).2
    have h2 := sumN_lt (l := t) (fun q hq => h q (by simp [hq]))
    simp only [sumN, List.length_cons]
    have : ((t.length + 1 : Nat) : Int) * Big = t.length * Big + Big := by rw [Int.natCast_add, Int.add_mul]; simp
    omega
theorem sum_len {l : List (Int × Int)} (h : ∀ p ∈ l, Wp p) (hl : l.length ≤ 12) (k : Nat) : 0 ≤ sumN (l.take k) ∧ (dg (sumN (l.take k)).toNat).length ≤ 9 := by
  have h1 := sumN_pos (l := l.take k) (fun p hp => h p (List.mem_of_mem_take hp))
  have h2 := sumN_lt (l := l.take k) (fun p hp => h p (List.mem_of_mem_take hp))
  have h3 : (l.take k).length ≤ 12 := by rw [List.length_take]; omega
  refine ⟨h1, dg_len ?_⟩
  have : ((l.take k).length : Int) * Big ≤ 12 * Big := Int.mul_le_mul_of_nonneg_right (by omega) (by decide)
  unfold Big at *
  omega

theorem digits_res (hi lo : Int) (h1 : Wd hi) (h2 : Wd lo) (w : World) :
    Calls Try.prog 10 #[WV hi lo] w fun e w' => ∃ v' L, e = .returned v' ∧ Dig L ∧ dv L = num (hi, lo) ∧ L.length ≤ 8 ∧ Owns .u64 24 w.heap.size w' v' L ∧ Below w.heap.size w w' :=
  (digits_any hi lo h1 h2 w).mono fun e w' ⟨v', he, ho, hb⟩ => ⟨v', _, he, dg_dig _, by rw [dv_dg]; have := (num_pos (p := (hi, lo)) ⟨h1, h2⟩).1; omega, dg_len (by have := (num_pos (p := (hi, lo)) ⟨h1, h2⟩).2; unfold Big at this; omega), ho, hb⟩
theorem plus_res (v1 v2 : Value) (l1 l2 : List Int) (w : World) (s1 : Seg .u64 w v1 l1) (s2 : Seg .u64 w v2 l2) (d1 : Dig l1) (d2 : Dig l2) (h1 : l1.length ≤ 1000000) (h2 : l2.length ≤ 1000000) :
    Calls Try.prog 17 #[v1, v2] w fun e w' => ∃ v' L, e = .returned v' ∧ Dig L ∧ dv L = dv l1 + dv l2 ∧ Owns .u64 24 w.heap.size w' v' L ∧ Below w.heap.size w w' :=
  (plus_any v1 v2 l1 l2 w s1 s2 d1 d2 h1 h2).mono fun e w' ⟨v', he, ho, hb⟩ => ⟨v', _, he, dg_dig _, by rw [dv_dg]; have := dv_nonneg d1; have := dv_nonneg d2; omega, ho, hb⟩
theorem times_res (v1 v2 : Value) (l1 l2 : List Int) (w : World) (s1 : Seg .u64 w v1 l1) (s2 : Seg .u64 w v2 l2) (d1 : Dig l1) (d2 : Dig l2) (h1 : l1.length ≤ 1000) (h2 : l2.length ≤ 1000) :
    Calls Try.prog 18 #[v1, v2] w fun e w' => ∃ v' L, e = .returned v' ∧ Dig L ∧ dv L = dv l1 * dv l2 ∧ L.length ≤ 2000 ∧ Owns .u64 24 w.heap.size w' v' L ∧ Below w.heap.size w w' :=
  (times_any v1 v2 l1 l2 w s1 s2 d1 d2 h1 h2).mono fun e w' ⟨v', he, ho, hb⟩ => ⟨v', _, he, dg_dig _, by rw [dv_dg]; have := Int.mul_nonneg (dv_nonneg d1) (dv_nonneg d2); omega, by have := prod_len d1 d2; omega, ho, hb⟩
theorem like_is (x z : Int) (hx : Wd x) (hz : Wd z) (v : Value) (l : List Int) (w : World) (s : Seg .u64 w v l) (d : Dig l) (h : dv l = num (x, z)) :
    Calls Try.prog 16 #[WV x z, .int .i64 0, v] w fun e w' => e = .returned (.bool true) ∧ Below w.heap.size w w' := by
  have := like_ok v l w s d (by rw [h]; exact (num_pos (p := (x, z)) ⟨hx, hz⟩).2)
  rwa [hiW_of hx hz h, loW_of hx hz h] at this
theorem like_pow_ok {A P X : Int} {N : Nat} (hX : PowOf A N X) (hP : P = A ^ N) (hc : P < Big) (v : Value) (w : World) (s : Seg .u64 w v (dg X.toNat)) :
    Calls Try.prog 16 #[WV (hiW P) (loW P), .int .i64 0, v] w fun e w' => e = .returned (.bool true) ∧ Below w.heap.size w w' := by
  have e := hX.2.1 (by rw [← hP]; exact hc)
  have h0 := hX.1
  have e2 : ((X.toNat : Nat) : Int) = P := by rw [hP]; omega
  have := like_ok v _ w s (dg_dig _) (by rw [dv_dg, e2]; exact hc)
  rwa [dv_dg, e2] at this
theorem like_pow_no {A P X : Int} {N : Nat} (hX : PowOf A N X) (hP : P = A ^ N) (hc : ¬ P < Big) (v : Value) (w : World) (s : Seg .u64 w v (dg X.toNat)) :
    Calls Try.prog 16 #[WV 0 0, .int .i64 110, v] w fun e w' => e = .returned (.bool true) ∧ Below w.heap.size w w' := by
  have e := hX.2.2 (by rw [← hP]; exact hc)
  exact like_no v _ w s (dg_dig _) (by rw [dv_dg]; omega)
/-- What the round holds: two wide variables and the sum so far. -/
def Hold (w0 : World) (k9 : Nat) (x z : Int) (k : Nat) (x' z' : Int) (v : Value) (L : List Int) (w : World) : Prop :=
  Blk w k9 #[.int .u64 x, .int .u64 z] 26 ∧ Blk w k #[.int .u64 x', .int .u64 z'] 26 ∧ Owns .u64 24 w0.heap.size w v L ∧ Below w0.heap.size w0 w
section
variable {w0 w w' : World} {k9 k : Nat} {x z x' z' : Int} {v : Value} {L : List Int}
theorem Hold.later (h : Hold w0 k9 x z k x' z' v L w) (hb : Below w.heap.size w w') : Hold w0 k9 x z k x' z' v L w' := ⟨h.1.later hb, h.2.1.later hb, h.2.2.1.later hb, below_later h.2.2.2 hb⟩
theorem Hold.drew (h : Hold w0 k9 x z k x' z' v L w) : Hold w0 k9 x z k x' z' v L w.drew := ⟨h.1, h.2.1, h.2.2.1, h.2.2.2.drew⟩
theorem Hold.cells (h : Hold w0 k9 x z k x' z' v L w) : w.cell? ⟨k9, 0, none⟩ = some (.int .u64 x) ∧ w.cell? ⟨k9, 1, none⟩ = some (.int .u64 z) ∧ w.cell? ⟨k, 0, none⟩ = some (.int .u64 x') ∧ w.cell? ⟨k, 1, none⟩ = some (.int .u64 z') ∧ Hold w0 k9 x z k x' z' v L w :=
  ⟨h.1.cell 0, h.1.cell 1, h.2.1.cell 0, h.2.1.cell 1, h⟩
end

set_option maxRecDepth 100000 in
set_option maxHeartbeats 4000000 in
theorem more_at (o : Option Addr) (len cap q : Nat) (M : List (Int × Int)) (hlc : len ≤ cap) (_hm : cap ≤ maxLen) (hq : q = min len 12) (hM : M.length = q) (y : Int) (hy : Wd y) (n : Int) (hn : n < 9223372036854775808) (w : World)
    (hl : M = [] ∨ ∃ b off, o = some ⟨b, off, none⟩ ∧ b < w.heap.size ∧ ∀ k (h : k < M.length), w.cell? ⟨b, off + k * 2, none⟩ = some (.int .u64 M[k].1) ∧ w.cell? ⟨b, off + k * 2 + 1, none⟩ = some (.int .u64 M[k].2)) (hp : ∀ p ∈ M, Wp p)
    (hsum : ∀ wz, Below w.heap.size w wz → Calls Try.prog 24 #[.slice o q cap] wz fun e w' => Chk (sumN M < Big) (sumN M) e ∧ Below wz.heap.size wz w') :
    Calls Try.prog 4 #[.slice o len cap, .int .u64 y, .int .i64 n] w fun e w' => e = .returned (.bool true) ∧ Below w.heap.size w w' := by
  have HA := Lib.hid hl; clear hl
  have HP := Lib.hid hp; clear hp
  have HM := Lib.hid hM; clear hM
  have HS := Lib.hid hsum; clear hsum
  have HY := Lib.hid hy; clear hy
  go_enter Try.func4, Try.ntmps4
  go_wp2_with fail
  refine (wakes_true _).mono ?_
  rintro e w1 ⟨rfl, h1⟩
  go_wp2_with fail
  rw [show (min (len : Int) 12).toNat = q by omega, show max (min (len : Int) 12) 0 = (q : Int) by omega]
  have hq12 : q ≤ 12 := by omega
  clear hq hlc
  go_loopw [7, 27] (fun s i wr => ∃ m : Nat, m ≤ q ∧ i = .int .i64 (m : Int) ∧ Owns .u64 24 w.heap.size wr s (dg (sumN (M.take m)).toNat) ∧ Below w.heap.size w wr) (fun _ i _ => q - (intOf i).toNat)
  case atStart => exact ⟨0, by omega, rfl, by simpa [sumN, dg_zero] using Owns.nil .u64 24 _ _, h1⟩
  case round =>
    clear h1
    obtain ⟨m, hmq, rfl, hO, hB⟩ := hrel
    have hsl := sum_len HP.out (by have := HM.out; omega) m
    have hLd := dg_dig (sumN (M.take m)).toNat
    have hLv := dv_dg (sumN (M.take m)).toNat
    obtain ⟨L, hL⟩ : ∃ L, L = dg (sumN (M.take m)).toNat := ⟨_, rfl⟩
    rw [← hL] at hO hsl hLd hLv
    obtain ⟨so, sc, rfl⟩ := hO.shape
    obtain ⟨lk, hlk⟩ : ∃ k, k = L.length := ⟨_, rfl⟩
    rw [← hlk] at hO hsl ⊢
    have HLK := Lib.hid hlk
    have HLD := Lib.hid hLd
    have HLV := Lib.hid hLv
    clear hL hlk hLd hLv
    by_cases hlt : m < q
    · have hkl : m < M.length := by have := HM.out; omega
      obtain ⟨b, off, rfl, hb, hc⟩ := HA.out.resolve_left (fun e => by rw [e] at hkl; simp at hkl)
      have c0 := (hB.cell (p := ⟨b, off + m * 2, none⟩) hb).trans (hc m hkl).1
      have c1 := (hB.cell (p := ⟨b, off + m * 2 + 1, none⟩) hb).trans (hc m hkl).2
      have hwp : Wp M[m] := HP.out _ (List.getElem_mem hkl)
      have hss := sumN_take_succ hkl
      obtain ⟨⟨x, z⟩, hxz⟩ : ∃ q, q = M[m] := ⟨_, rfl⟩
      rw [← hxz] at c0 c1 hwp hss
      simp only at c0 c1
      obtain ⟨hx, hz⟩ := hwp
      have hbw : b < wr.heap.size := Nat.lt_of_lt_of_le hb hB.size
      have HX := Lib.hid hx
      have HZ := Lib.hid hz
      have HSS := Lib.hid hss
      have HSL := Lib.hid hsl
      have HC := Lib.hid hc
      clear hxz hx hz hss hc hsl
      go_wp2_with fail
      refine (digits_any x z HX.out HZ.out _).mono ?_
      rintro e w2 ⟨v2, rfl, o2, B2⟩
      have b9 := Blk.nw B2
      have hO := (hO.alloc (.cells #[.int .u64 x, .int .u64 z] 26)).later B2
      have BB := below_al hB B2
      have hp0 := (num_pos (p := (x, z)) ⟨HX.out, HZ.out⟩).1
      have hlx : (dg (num (x, z)).toNat).length ≤ 8 := dg_len (by have := (num_pos (p := (x, z)) ⟨HX.out, HZ.out⟩).2; unfold Big at this; omega)
      go_wp2_with fail
      have p1 := hO.seg
      have p2 := o2.seg
      have hd2 := dg_dig (num (x, z)).toNat
      have hv2 := dv_dg (num (x, z)).toNat
      obtain ⟨L2, hL2⟩ : ∃ L, L = dg (num (x, z)).toNat := ⟨_, rfl⟩
      rw [← hL2] at p2 hd2 hv2 hlx
      clear hL2
      refine (plus_any (.slice so lk sc) v2 L L2 w2 p1 p2 HLD.out hd2 (by have := HSL.out.2; have := HLK.out; omega) (by omega)).mono ?_
      rintro e w3 ⟨v3, rfl, o3, B3⟩
      have b9 := b9.later B3
      have o3 : Owns .u64 24 w.heap.size w3 v3 (dg (sumN (M.take (m + 1))).toNat) := by
        have := o3.mono BB.size
        rw [HLV.out, hv2] at this
        rw [HSS.out]
        have e : ((((sumN (M.take m)).toNat : Nat) : Int) + (((num (x, z)).toNat : Nat) : Int)).toNat = (sumN (M.take m) + num (x, z)).toNat := by have := HSL.out.1; omega
        rw [e] at this
        exact this
      have BB := below_later BB B3
      clear B2 B3 o2 hO hB c0 c1
      obtain ⟨k9, hk9⟩ : ∃ k, k = wr.heap.size := ⟨_, rfl⟩
      rw [← hk9] at b9 ⊢
      clear hk9 hbw
      obtain ⟨d0, d1, hl9⟩ := b9.two
      go_wp2_with fail
      have heq : ∀ x y w, (binOp .neq 26 (.agg #[.int .u64 x, .int .u64 y]) (.agg #[.int .u64 x, .int .u64 y])).run Try.prog w = .ok (.bool false) w := fun x y w => by rw [neq_wide]; simp [sameW]
      by_cases hy0 : y = 0
      case' pos =>
        subst hy0
        refine (div_zero x z _).mono ?_
        rintro e w4 ⟨rfl, B4⟩
        go_upto_region 11 with fail
        have hT : Hold w k9 x z w4.heap.size 0 0 v3 (dg (sumN (M.take (m + 1))).toNat) (w4.alloc (.cells #[.int .u64 0, .int .u64 0] 26)) :=
          ⟨(b9.later B4).alloc _, Blk.new _ _ _, (o3.later B4).alloc _, (below_later BB B4).alloc (below_later BB B4).size _⟩
        obtain ⟨k10, hk10⟩ : ∃ k, k = w4.heap.size := ⟨_, rfl⟩
        obtain ⟨w5, hw5⟩ : ∃ w5, w5 = w4.alloc (.cells #[.int .u64 0, .int .u64 0] 26) := ⟨_, rfl⟩
        rw [← hk10, ← hw5] at hT ⊢
        clear hk10 hw5 B4 BB o3 b9 d0 d1 hl9
        go_region_held3 (fun w' => w'.cell? ⟨k9, 0, none⟩ = some (.int .u64 x) ∧ w'.cell? ⟨k9, 1, none⟩ = some (.int .u64 z) ∧ w'.cell? ⟨k10, 0, none⟩ = some (.int .u64 0) ∧ w'.cell? ⟨k10, 1, none⟩ = some (.int .u64 0) ∧ Hold w k9 x z k10 0 0 v3 (dg (sumN (M.take (m + 1))).toNat) w')
          (first | exact hT.cells | exact hT.drew.cells)
          ((go_at_call 19; refine (of_any _ _).mono ?_; rintro e w' ⟨rfl, hbl⟩; first | (have hT := hT.drew.later hbl) | (have hT := hT.later hbl)))
        obtain ⟨b9, -, o3, BB⟩ := hT
        obtain ⟨d0, d1, hl9⟩ := b9.two
        go_wp2_with fail
      case' neg =>
        refine (div_any x z y HX.out HZ.out HY.out (by have := HY.out.1; omega) _).mono ?_
        rintro e w4 ⟨rfl, B4⟩
        have b9 := b9.later B4
        have o3 := o3.later B4
        have BB := below_later BB B4
        obtain ⟨Q, hQ⟩ : ∃ Q, Q = num (x, z) / y := ⟨_, rfl⟩
        obtain ⟨R, hR⟩ : ∃ R, R = num (x, z) % y := ⟨_, rfl⟩
        rw [← hQ, ← hR]
        have HQ := Lib.hid hQ; clear hQ
        have HR := Lib.hid hR; clear hR
        clear d0 d1 hl9 B4
        have ty : (y == 0) = false := by simpa using hy0
        have y0 : 0 < y := by have := HY.out.1; omega
        have hn1 := num_pos (p := (x, z)) ⟨HX.out, HZ.out⟩
        have q0 : 0 ≤ Q := by rw [HQ.out]; exact Int.ediv_nonneg hn1.1 (by omega)
        have q1 : Q < Big := by rw [HQ.out]; exact Int.lt_of_le_of_lt (Int.ediv_le_self _ hn1.1) hn1.2
        have r0 : 0 ≤ R := by rw [HR.out]; exact Int.emod_nonneg _ (by omega)
        have r1 : R < y := by rw [HR.out]; exact Int.emod_lt_of_pos _ y0
        have hyw := HY.out.2
        have tr : decide (y ≤ R) = false := by simp; omega
        have hN : Q * y + R = num (x, z) := by rw [HQ.out, HR.out]; have := Int.ediv_mul_add_emod (num (x, z)) y; omega
        have HN := Lib.hid hN; clear hN
        have q2 := Lib.hid (hiW_wd q0 q1)
        clear hn1
        go_wp2_with fail
        refine (digits_res (hiW Q) (loW Q) q2.out (loW_wd _) _).mono ?_
        rintro e w5 ⟨v5, L5, rfl, d5, e5, l5, o5, B5⟩
        rw [num_hl] at e5
        have D5 := Lib.hid d5; have E5 := Lib.hid e5; clear d5 e5
        have b9 := b9.al B5
        have o3 := (o3.alloc _).later B5
        have BB := below_al BB B5
        clear B5
        go_wp2_with fail
        refine (of_any y _).mono ?_
        rintro e w6 ⟨rfl, B6⟩
        have b9 := b9.later B6; have o3 := o3.later B6; have BB := below_later BB B6; have o5 := o5.later B6
        clear B6
        go_wp2_with fail
        refine (digits_res 0 y wd0 HY.out _).mono ?_
        rintro e w7 ⟨v7, L7, rfl, d7, e7, l7, o7, B7⟩
        have b9 := b9.later B7; have o3 := o3.later B7; have BB := below_later BB B7; have o5 := o5.later B7
        clear B7
        go_wp2_with fail
        refine (times_res v5 v7 L5 L7 _ o5.seg o7.seg D5.out d7 (by omega) (by omega)).mono ?_
        rintro e w8 ⟨v8, L8, rfl, d8, e8, l8, o8, B8⟩
        have b9 := b9.later B8; have o3 := o3.later B8; have BB := below_later BB B8
        clear B8 o5 o7
        rw [E5.out, e7, show num (0, y) = y by simp [num]] at e8
        have D8 := Lib.hid d8; have E8 := Lib.hid e8; clear d8 e8 e7 d7 E5 D5
        go_wp2_with fail
        refine (of_any R _).mono ?_
        rintro e w9 ⟨rfl, B9⟩
        have b9 := b9.later B9; have o3 := o3.later B9; have BB := below_later BB B9; have o8 := o8.later B9
        clear B9
        go_wp2_with fail
        refine (digits_res 0 R wd0 ⟨r0, by omega⟩ _).mono ?_
        rintro e w10 ⟨v10, L10, rfl, d10, e10, l10, o10, B10⟩
        have b9 := b9.later B10; have o3 := o3.later B10; have BB := below_later BB B10; have o8 := o8.later B10
        clear B10
        go_wp2_with fail
        refine (plus_res v8 v10 L8 L10 _ o8.seg o10.seg D8.out d10 (by omega) (by omega)).mono ?_
        rintro e w11 ⟨v11, L11, rfl, d11, e11, o11, B11⟩
        have b9 := b9.later B11; have o3 := o3.later B11; have BB := below_later BB B11
        clear B11 o8 o10
        rw [E8.out, e10, show num (0, R) = R by simp [num], HN.out] at e11
        have D11 := Lib.hid d11; have E11 := Lib.hid e11; clear d11 e11 e10 d10
        obtain ⟨d0, d1, hl9⟩ := b9.two
        go_wp2_with fail
        refine (like_is x z HX.out HZ.out v11 L11 _ o11.seg D11.out E11.out).mono ?_
        rintro e w' ⟨rfl, B12⟩
        have b9 := b9.later B12; have o3 := o3.later B12; have BB := below_later BB B12
        clear B12 d0 d1 hl9
        obtain ⟨d0, d1, hl9⟩ := b9.two
        go_wp2_with fail
      all_goals
        by_cases hn0 : n < 0
        case' pos =>
          have tn : decide (n < 0) = true := by simpa using hn0
          refine (powerf_neg x z n hn0 _).mono ?_
          rintro e wA ⟨rfl, BA⟩
          go_upto_region 18 with fail
          have hT : Hold w k9 x z wA.heap.size 0 0 v3 (dg (sumN (M.take (m + 1))).toNat) (wA.alloc (.cells #[.int .u64 0, .int .u64 0] 26)) :=
            ⟨(b9.later BA).alloc _, Blk.new _ _ _, (o3.later BA).alloc _, (below_later BB BA).alloc (below_later BB BA).size _⟩
          obtain ⟨k14, hk14⟩ : ∃ k, k = wA.heap.size := ⟨_, rfl⟩
          obtain ⟨wE, hwE⟩ : ∃ w5, w5 = wA.alloc (.cells #[.int .u64 0, .int .u64 0] 26) := ⟨_, rfl⟩
          rw [← hk14, ← hwE] at hT ⊢
          clear hk14 hwE BA BB o3 b9 d0 d1 hl9
          go_region_held3 (fun w' => w'.cell? ⟨k9, 0, none⟩ = some (.int .u64 x) ∧ w'.cell? ⟨k9, 1, none⟩ = some (.int .u64 z) ∧ w'.cell? ⟨k14, 0, none⟩ = some (.int .u64 0) ∧ w'.cell? ⟨k14, 1, none⟩ = some (.int .u64 0) ∧ Hold w k9 x z k14 0 0 v3 (dg (sumN (M.take (m + 1))).toNat) w')
            (first | exact hT.cells | exact hT.drew.cells)
            ((go_at_call 19; refine (of_any _ _).mono ?_; rintro e wF ⟨rfl, hbl⟩; first | (have hT := hT.drew.later hbl) | (have hT := hT.later hbl)))
          all_goals
            go_wp2_with fail
            go_roundw
            case rel => exact ⟨m + 1, by omega, by go_num, hT.2.2.1, hT.2.2.2⟩
            case measure => simp [intOf]; omega
        case' neg =>
          obtain ⟨N, rfl⟩ : ∃ N : Nat, n = N := ⟨n.toNat, by omega⟩
          have tn : decide ((N : Int) < 0) = false := by simp
          refine (powerf_any x z N HX.out HZ.out (by omega) _).mono ?_
          rintro e wA ⟨hr, BA⟩
          obtain ⟨P, hP⟩ : ∃ P, P = num (x, z) ^ N := ⟨_, rfl⟩
          rw [← hP] at hr
          have HPW := Lib.hid hP
          clear hP
          obtain ⟨A, B, E, rfl, hlike⟩ : ∃ A B E, e = .returned (.tuple #[WV A B, .int .i64 E]) ∧ ∀ X v w, PowOf (num (x, z)) N X → Seg .u64 w v (dg X.toNat) → Calls Try.prog 16 #[WV A B, .int .i64 E, v] w fun e w' => e = .returned (.bool true) ∧ Below w.heap.size w w' := by
            rcases hr.fits with ⟨hc, rfl⟩ | ⟨hc, rfl⟩
            · exact ⟨_, _, _, rfl, fun X v w hX hs => like_pow_ok hX HPW.out hc v w hs⟩
            · exact ⟨_, _, _, rfl, fun X v w hX hs => like_pow_no hX HPW.out hc v w hs⟩
          have HLK2 := Lib.hid hlike
          clear hr hlike
          go_upto_region 20 with fail
          have hT : Hold w k9 x z wA.heap.size A B v3 (dg (sumN (M.take (m + 1))).toNat) (wA.alloc (.cells #[.int .u64 A, .int .u64 B] 26)) :=
            ⟨(b9.later BA).alloc _, Blk.new _ _ _, (o3.later BA).alloc _, (below_later BB BA).alloc (below_later BB BA).size _⟩
          obtain ⟨k14, hk14⟩ : ∃ k, k = wA.heap.size := ⟨_, rfl⟩
          obtain ⟨wE, hwE⟩ : ∃ w5, w5 = wA.alloc (.cells #[.int .u64 A, .int .u64 B] 26) := ⟨_, rfl⟩
          rw [← hk14, ← hwE] at hT ⊢
          clear hk14 hwE BA BB o3 b9 d0 d1 hl9
          go_region_held3 (fun w' => w'.cell? ⟨k9, 0, none⟩ = some (.int .u64 x) ∧ w'.cell? ⟨k9, 1, none⟩ = some (.int .u64 z) ∧ w'.cell? ⟨k14, 0, none⟩ = some (.int .u64 A) ∧ w'.cell? ⟨k14, 1, none⟩ = some (.int .u64 B) ∧ Hold w k9 x z k14 A B v3 (dg (sumN (M.take (m + 1))).toNat) w')
            (first | exact hT.cells | exact hT.drew.cells)
            (first
              | (go_at_call 10; refine (digits_res x z HX.out HZ.out _).mono ?_; rintro e wF ⟨vF, LF, rfl, dF, eF, lF, oF, hbl⟩; first | (have hT := hT.drew.later hbl) | (have hT := hT.later hbl))
              | (go_at_call 23; refine (rpower_any vF LF N _ oF.seg dF lF (by omega)).mono ?_; rintro e wG ⟨vG, X, rfl, hX, oG, hbl⟩; rw [eF] at hX; have hT := hT.later hbl)
              | (go_at_call 16; refine (HLK2.out X vG _ hX oG.seg).mono ?_; rintro e wH ⟨rfl, hbl⟩; have hT := hT.later hbl))
          all_goals
            go_wp2_with fail
            go_roundw
            case rel => exact ⟨m + 1, by omega, by go_num, hT.2.2.1, hT.2.2.2⟩
            case measure => simp [intOf]; omega
    · obtain rfl : m = q := by omega
      have eM : dv L = sumN M := by
        rw [HLV.out, List.take_of_length_le (by have := HM.out; omega)]
        have := sumN_pos HP.out
        omega
      go_wp2_with fail
      refine (HS.out _ hB).mono ?_
      rintro e w2 ⟨hr, B2⟩
      have hO := hO.later B2
      have BB := below_later hB B2
      obtain ⟨A, B, E, rfl, hlike⟩ : ∃ A B E, e = .returned (.tuple #[WV A B, .int .i64 E]) ∧ ∀ w, Seg .u64 w (.slice so lk sc) L → Calls Try.prog 16 #[WV A B, .int .i64 E, .slice so lk sc] w fun e w' => e = .returned (.bool true) ∧ Below w.heap.size w w' := by
        rcases hr.fits with ⟨hc, rfl⟩ | ⟨hc, rfl⟩
        · refine ⟨_, _, _, rfl, fun w hs => ?_⟩
          rw [← eM] at hc ⊢
          exact like_ok _ L w hs HLD.out hc
        · refine ⟨_, _, _, rfl, fun w hs => like_no _ L w hs HLD.out (by rw [eM]; omega)⟩
      clear hr B2 hB
      go_wp2_with fail
      refine (hlike _ (hO.alloc _).seg).mono ?_
      rintro e w3 ⟨rfl, B3⟩
      have BB := below_al BB B3
      clear B3
      go_wp2_with fail
      go_ret
      exact ⟨rfl, BB⟩
end Go.Proofs.Ytfknocgmobddmaa
