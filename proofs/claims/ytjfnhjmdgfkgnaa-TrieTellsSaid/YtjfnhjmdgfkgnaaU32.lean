/- The reference of stage 7: Has. -/
import Derived.Test.YtjfnhjmdgfkgnaaU31
import Derived.Test.YtjfnhjmdgfkgnaaU24
namespace Go.Proofs.Ytjfnhjmdgfkgnaa
open Go.RowKit Go.Proofs.Kit
theorem any_take {Q : List Pr} {T : Pr → Bool} {k : Nat} (hk : k < Q.length) (h : (Q.take k).any T = false) (h2 : T Q[k] = false) : (Q.take (k + 1)).any T = false := by
  rw [List.take_succ_eq_append_getElem hk, List.any_append, h]
  simp [h2]
theorem any_at {Q : List Pr} {T : Pr → Bool} {k : Nat} (hk : k < Q.length) (h : T Q[k] = true) : Q.any T = true := List.any_eq_true.2 ⟨_, List.getElem_mem hk, h⟩
set_option maxRecDepth 100000 in
set_option maxHeartbeats 4000000 in
theorem zhas_long (vb vl : Value) (op : Option Addr) (np cp : Nat) (w : World) (h2 : 2 < np) (h3 : np ≤ 1000000000) :
    Calls Try.prog 18 #[.agg #[vb, vl], .slice op np cp] w fun e w' => e = .returned (.bool false) ∧ Below w.heap.size w w' := by
  have t2 : decide ((2 : Int) < (np : Int)) = true := by simp; omega
  go_enter Try.func18, Try.ntmps18
  go_wp2
  go_ret
  exact ⟨rfl, (Gr.alloc _ _).below⟩
set_option maxRecDepth 100000 in
set_option maxHeartbeats 4000000 in
theorem zhas_0 (vb vl : Value) (bs : List Br) (lv : List Int) (op : Option Addr) (cp : Nat) (w : World) (hb : SegR w vb bs) (hl : Seg .u64 w vl lv) (hlv : lv.length ≤ 10000) (hbs : bs.length ≤ 10000) (hcd : Chd lv.length bs)  :
    Calls Try.prog 18 #[.agg #[vb, vl], .slice op 0 cp] w fun e w' => e = .returned (.bool (zhOf (prs bs lv) [])) ∧ Below w.heap.size w w' := by
  have HRUN := Lib.hid (fun W (g : Below w.heap.size w W) => zrun_any vb vl bs lv W (hb.later g) (hl.later g) hlv hbs hcd)
  have hpl := prs_len lv bs
  have hpm : bs.length * lv.length ≤ 10000 * 10000 := Nat.mul_le_mul hbs hlv
  obtain ⟨R, hR⟩ : ∃ R, R = zhOf (prs bs lv) [] := ⟨_, rfl⟩
  rw [← hR]
  obtain ⟨Q, hQ⟩ : ∃ Q, Q = prs bs lv := ⟨_, rfl⟩
  rw [← hQ] at HRUN hR hpl
  obtain ⟨q, hq⟩ : ∃ q, q = Q.length := ⟨_, rfl⟩
  have HQL := Lib.hid (show q ≤ 100000000 by omega)
  have HQ := Lib.hid hq
  have HR := Lib.hid hR
  clear hR hQ hq hpl hpm hb hl hlv hbs hcd
  go_enter Try.func18, Try.ntmps18
  go_wp2_with fail
  refine (HRUN.out _ (Gr.alloc _ _).below).mono ?_
  rintro e w1 ⟨v1, rfl, hO, hb1⟩
  obtain ⟨o1, c1, e0, -⟩ := hO.seg.shape
  rw [← HQ.out] at e0
  subst e0
  have hb1 := (Gr.alloc w (.cells #[vb, vl] 25)).below.trans (hb1.mono (by simp))
  have HS := Lib.hid hO.seg
  have HB1 := Lib.hid hb1
  clear hO hb1
  go_wp2
  go_loopw [13] (fun i wr => ∃ k : Nat, k ≤ q ∧ i = .int .i64 (k : Int) ∧ Hid ((Q.take k).any ts0 = false) ∧ Gr w1 wr) (fun i _ => q - (intOf i).toNat)
  case atStart => exact ⟨0, by omega, rfl, Lib.hid (by simp), Gr.refl _⟩
  case round =>
    obtain ⟨k, hk, rfl, HF, hG⟩ := hrel
    have hql := HQL.out
    by_cases hlt : k < q
    · have hkl : k < Q.length := by have := HQ.out; omega
      obtain ⟨b, f, rfl, hbl, hcells⟩ := (HS.out.later hG.below).has hkl
      obtain ⟨d1, d2⟩ := hcells k hkl
      have HN := Lib.hid (fun h2 => any_take (T := ts0) hkl HF.out h2)
      have HY := Lib.hid (any_at (T := ts0) hkl)
      obtain ⟨x, hx⟩ : ∃ x, x = Q[k] := ⟨_, rfl⟩
      rw [← hx] at d1 d2 HN HY
      obtain ⟨x1, x2⟩ := x
      simp only at d1 d2
      clear hx hcells
      · skip
        go_wp2
        go_quiet (fail)
        go_wp2
        go_ret
        have hr : R = true := by rw [HR.out]; simp only [zhOf, decide_eq_true_eq]; omega
        refine ⟨by rw [hr]; rfl, ?_⟩
        exact HB1.out.trans (((hG.trans (Gr.alloc _ _)).trans (Gr.drewN _ _)).below.mono (by have := HB1.out.size; omega))

    · go_wp2
      go_ret
      refine ⟨?_, HB1.out.trans (hG.below.mono (by have := HB1.out.size; omega))⟩
      have h1 := HF.out
      rw [List.take_of_length_le (by have := HQ.out; omega)] at h1
      have hr : R = false := by
        rw [HR.out]
        cases Q with
        | nil => rfl
        | cons y t => simp [ts0] at h1
      rw [hr]; rfl

set_option maxRecDepth 100000 in
set_option maxHeartbeats 4000000 in
theorem zhas_1 (vb vl : Value) (bs : List Br) (lv : List Int) (ad : Addr) (op : Option Addr) (a : Int) (cp : Nat) (w : World) (hb : SegR w vb bs) (hl : Seg .u64 w vl lv) (hlv : lv.length ≤ 10000) (hbs : bs.length ≤ 10000) (hcd : Chd lv.length bs) (hop : op = some ad) (hp : w.cell? ad = some (.int .u64 a)) :
    Calls Try.prog 18 #[.agg #[vb, vl], .slice op 1 cp] w fun e w' => e = .returned (.bool (zhOf (prs bs lv) [a])) ∧ Below w.heap.size w w' := by
  have HRUN := Lib.hid (fun W (g : Below w.heap.size w W) => zrun_any vb vl bs lv W (hb.later g) (hl.later g) hlv hbs hcd)
  have hpl := prs_len lv bs
  have hpm : bs.length * lv.length ≤ 10000 * 10000 := Nat.mul_le_mul hbs hlv
  obtain ⟨R, hR⟩ : ∃ R, R = zhOf (prs bs lv) [a] := ⟨_, rfl⟩
  rw [← hR]
  obtain ⟨Q, hQ⟩ : ∃ Q, Q = prs bs lv := ⟨_, rfl⟩
  rw [← hQ] at HRUN hR hpl
  obtain ⟨q, hq⟩ : ∃ q, q = Q.length := ⟨_, rfl⟩
  have HQL := Lib.hid (show q ≤ 100000000 by omega)
  have HQ := Lib.hid hq
  have HR := Lib.hid hR
  subst hop
  have HPA := Lib.hid (fun W (g : Below w.heap.size w W) => show W.cell? ad = some (.int .u64 a) ∧ W.cell? (ad.add 0) = some (.int .u64 a) from by
    have h1 := (g.cell (World.block_lt_of_cell? _ _ hp)).trans hp
    exact ⟨h1, by simpa [Addr.add] using h1⟩)
  clear hp
  clear hR hQ hq hpl hpm hb hl hlv hbs hcd
  go_enter Try.func18, Try.ntmps18
  go_wp2_with fail
  refine (HRUN.out _ (Gr.alloc _ _).below).mono ?_
  rintro e w1 ⟨v1, rfl, hO, hb1⟩
  obtain ⟨o1, c1, e0, -⟩ := hO.seg.shape
  rw [← HQ.out] at e0
  subst e0
  have hb1 := (Gr.alloc w (.cells #[vb, vl] 25)).below.trans (hb1.mono (by simp))
  have HS := Lib.hid hO.seg
  have HB1 := Lib.hid hb1
  clear hO hb1
  go_wp2
  go_loopw [13] (fun i wr => ∃ k : Nat, k ≤ q ∧ i = .int .i64 (k : Int) ∧ Hid ((Q.take k).any (ts1 a) = false) ∧ Gr w1 wr) (fun i _ => q - (intOf i).toNat)
  case atStart => exact ⟨0, by omega, rfl, Lib.hid (by simp), Gr.refl _⟩
  case round =>
    obtain ⟨k, hk, rfl, HF, hG⟩ := hrel
    have hql := HQL.out
    by_cases hlt : k < q
    · have hkl : k < Q.length := by have := HQ.out; omega
      obtain ⟨b, f, rfl, hbl, hcells⟩ := (HS.out.later hG.below).has hkl
      obtain ⟨d1, d2⟩ := hcells k hkl
      have HN := Lib.hid (fun h2 => any_take (T := (ts1 a)) hkl HF.out h2)
      have HY := Lib.hid (any_at (T := (ts1 a)) hkl)
      obtain ⟨x, hx⟩ : ∃ x, x = Q[k] := ⟨_, rfl⟩
      rw [← hx] at d1 d2 HN HY
      obtain ⟨x1, x2⟩ := x
      simp only at d1 d2
      clear hx hcells
      have hpa := HPA.out wr (HB1.out.trans (hG.below.mono (by have := HB1.out.size; omega)))
      have hpb := World.block_lt_of_cell? _ _ hpa.1
      have pc1 := ((Gr.alloc wr (.cells #[.int .u64 x1, .int .u64 x2] 83)).cell hpb).trans hpa.1
      have pc2 := ((Gr.alloc wr (.cells #[.int .u64 x1, .int .u64 x2] 83)).cell hpb).trans hpa.2
      clear hpa
      by_cases he : x1 = a
      · have t1 : (x1 == a) = true := by simpa using he
        have HE := Lib.hid he
        clear he
        go_wp2
        go_quiet (fail)
        go_wp2
        go_ret
        have hr : R = true := by rw [HR.out]; exact HY.out (by simp [ts1, HE.out])
        refine ⟨by rw [hr]; rfl, ?_⟩
        exact HB1.out.trans (((hG.trans (Gr.alloc _ _)).trans (Gr.drewN _ _)).below.mono (by have := HB1.out.size; omega))
      · have t1 : (x1 == a) = false := by simpa using he
        have HE := Lib.hid he
        clear he
        go_wp2
        go_quiet (fail)
        go_wp2
        go_roundw
        case rel => exact ⟨k + 1, by omega, by go_num, Lib.hid (HN.out (by simp [ts1, HE.out])), (hG.trans (Gr.alloc _ _)).trans (Gr.drewN _ _)⟩
        case measure => simp [intOf]; omega

    · go_wp2
      go_ret
      refine ⟨?_, HB1.out.trans (hG.below.mono (by have := HB1.out.size; omega))⟩
      have h1 := HF.out
      rw [List.take_of_length_le (by have := HQ.out; omega)] at h1
      have hr : R = false := by rw [HR.out]; exact h1
      rw [hr]; rfl

set_option maxRecDepth 100000 in
set_option maxHeartbeats 4000000 in
theorem zhas_2 (vb vl : Value) (bs : List Br) (lv : List Int) (ad : Addr) (op : Option Addr) (a b0 : Int) (cp : Nat) (w : World) (hb : SegR w vb bs) (hl : Seg .u64 w vl lv) (hlv : lv.length ≤ 10000) (hbs : bs.length ≤ 10000) (hcd : Chd lv.length bs) (hop : op = some ad) (hp : w.cell? ad = some (.int .u64 a)) (hp2 : w.cell? (ad.add 1) = some (.int .u64 b0)) :
    Calls Try.prog 18 #[.agg #[vb, vl], .slice op 2 cp] w fun e w' => e = .returned (.bool (zhOf (prs bs lv) [a, b0])) ∧ Below w.heap.size w w' := by
  have HRUN := Lib.hid (fun W (g : Below w.heap.size w W) => zrun_any vb vl bs lv W (hb.later g) (hl.later g) hlv hbs hcd)
  have hpl := prs_len lv bs
  have hpm : bs.length * lv.length ≤ 10000 * 10000 := Nat.mul_le_mul hbs hlv
  obtain ⟨R, hR⟩ : ∃ R, R = zhOf (prs bs lv) [a, b0] := ⟨_, rfl⟩
  rw [← hR]
  obtain ⟨Q, hQ⟩ : ∃ Q, Q = prs bs lv := ⟨_, rfl⟩
  rw [← hQ] at HRUN hR hpl
  obtain ⟨q, hq⟩ : ∃ q, q = Q.length := ⟨_, rfl⟩
  have HQL := Lib.hid (show q ≤ 100000000 by omega)
  have HQ := Lib.hid hq
  have HR := Lib.hid hR
  subst hop
  have HPA := Lib.hid (fun W (g : Below w.heap.size w W) => show (W.cell? ad = some (.int .u64 a) ∧ W.cell? (ad.add 0) = some (.int .u64 a)) ∧ W.cell? (ad.add 1) = some (.int .u64 b0) from by
    have h1 := (g.cell (World.block_lt_of_cell? _ _ hp)).trans hp
    exact ⟨⟨h1, by simpa [Addr.add] using h1⟩, (g.cell (World.block_lt_of_cell? _ _ hp2)).trans hp2⟩)
  clear hp hp2
  clear hR hQ hq hpl hpm hb hl hlv hbs hcd
  go_enter Try.func18, Try.ntmps18
  go_wp2_with fail
  refine (HRUN.out _ (Gr.alloc _ _).below).mono ?_
  rintro e w1 ⟨v1, rfl, hO, hb1⟩
  obtain ⟨o1, c1, e0, -⟩ := hO.seg.shape
  rw [← HQ.out] at e0
  subst e0
  have hb1 := (Gr.alloc w (.cells #[vb, vl] 25)).below.trans (hb1.mono (by simp))
  have HS := Lib.hid hO.seg
  have HB1 := Lib.hid hb1
  clear hO hb1
  go_wp2
  go_loopw [13] (fun i wr => ∃ k : Nat, k ≤ q ∧ i = .int .i64 (k : Int) ∧ Hid ((Q.take k).any (ts2 a b0) = false) ∧ Gr w1 wr) (fun i _ => q - (intOf i).toNat)
  case atStart => exact ⟨0, by omega, rfl, Lib.hid (by simp), Gr.refl _⟩
  case round =>
    obtain ⟨k, hk, rfl, HF, hG⟩ := hrel
    have hql := HQL.out
    by_cases hlt : k < q
    · have hkl : k < Q.length := by have := HQ.out; omega
      obtain ⟨b, f, rfl, hbl, hcells⟩ := (HS.out.later hG.below).has hkl
      obtain ⟨d1, d2⟩ := hcells k hkl
      have HN := Lib.hid (fun h2 => any_take (T := (ts2 a b0)) hkl HF.out h2)
      have HY := Lib.hid (any_at (T := (ts2 a b0)) hkl)
      obtain ⟨x, hx⟩ : ∃ x, x = Q[k] := ⟨_, rfl⟩
      rw [← hx] at d1 d2 HN HY
      obtain ⟨x1, x2⟩ := x
      simp only at d1 d2
      clear hx hcells
      have hpa := HPA.out wr (HB1.out.trans (hG.below.mono (by have := HB1.out.size; omega)))
      have hpb := World.block_lt_of_cell? _ _ hpa.1.1
      have hpd := World.block_lt_of_cell? _ _ hpa.2
      have pc1 := ((Gr.alloc wr (.cells #[.int .u64 x1, .int .u64 x2] 83)).cell hpb).trans hpa.1.1
      have pc2 := ((Gr.alloc wr (.cells #[.int .u64 x1, .int .u64 x2] 83)).cell hpb).trans hpa.1.2
      have pc3 := ((Gr.alloc wr (.cells #[.int .u64 x1, .int .u64 x2] 83)).cell hpd).trans hpa.2
      have pc4 : (wr.alloc (.cells #[.int .u64 x1, .int .u64 x2] 83)).cell? ⟨ad.block, ad.off + 1, none⟩ = some (.int .u64 b0) := pc3
      clear hpa
      by_cases he : x1 = a
      · have t1 : (x1 == a) = true := by simpa using he
        by_cases he2 : x2 = b0
        · have t2 : (x2 == b0) = true := by simpa using he2
          have HE := Lib.hid (And.intro he he2)
          clear he he2
          go_wp2
          go_quiet (fail)
          go_wp2
          go_ret
          have hr : R = true := by rw [HR.out]; exact HY.out (by simp [ts2, HE.out])
          refine ⟨by rw [hr]; rfl, ?_⟩
          exact HB1.out.trans (((hG.trans (Gr.alloc _ _)).trans (Gr.drewN _ _)).below.mono (by have := HB1.out.size; omega))
        · have t2 : (x2 == b0) = false := by simpa using he2
          have HE := Lib.hid he2
          clear he he2
          go_wp2
          go_quiet (fail)
          go_wp2
          go_roundw
          case rel => exact ⟨k + 1, by omega, by go_num, Lib.hid (HN.out (by simp [ts2, HE.out])), (hG.trans (Gr.alloc _ _)).trans (Gr.drewN _ _)⟩
          case measure => simp [intOf]; omega
      · have t1 : (x1 == a) = false := by simpa using he
        have HE := Lib.hid he
        clear he
        go_wp2
        go_quiet (fail)
        go_wp2
        go_roundw
        case rel => exact ⟨k + 1, by omega, by go_num, Lib.hid (HN.out (by simp [ts2, HE.out])), (hG.trans (Gr.alloc _ _)).trans (Gr.drewN _ _)⟩
        case measure => simp [intOf]; omega

    · go_wp2
      go_ret
      refine ⟨?_, HB1.out.trans (hG.below.mono (by have := HB1.out.size; omega))⟩
      have h1 := HF.out
      rw [List.take_of_length_le (by have := HQ.out; omega)] at h1
      have hr : R = false := by rw [HR.out]; exact h1
      rw [hr]; rfl
end Go.Proofs.Ytjfnhjmdgfkgnaa

