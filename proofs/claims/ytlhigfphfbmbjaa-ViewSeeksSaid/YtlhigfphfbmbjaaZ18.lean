/- ViewAll's walk. -/
import Derived.Test.YtlhigfphfbmbjaaZG
import Derived.Test.YtlhigfphfbmbjaaZH
import Derived.Test.YtlhigfphfbmbjaaW14
namespace Go.Proofs.Kit
open Go.RowKit
theorem length_le_of {α : Type} [DecidableEq α] : ∀ {l m : List α}, l.Nodup → (∀ x ∈ l, x ∈ m) → l.length ≤ m.length
  | [], m, _, _ => by simp
  | x :: l, m, hn, hs => by
    obtain ⟨h1, h2⟩ := List.nodup_cons.1 hn
    have hx := hs x (by simp)
    have := length_le_of (l := l) (m := m.erase x) h2 fun y hy => (List.mem_erase_of_ne (by rintro rfl; exact h1 hy)).2 (hs y (by simp [hy]))
    rw [List.length_erase_of_mem hx] at this
    have := List.length_pos_of_mem hx
    simp only [List.length_cons]
    omega
theorem sayR_add {r : List Tr} {p : Pr} (h : sayR r p = 1) : ∃ t ∈ r, p ∈ t.1 := by
  induction r with
  | nil => simp [sayR] at h
  | cons t r ih =>
    simp only [sayR] at h
    by_cases c : p ∈ t.1
    · exact ⟨t, by simp, c⟩
    · rw [if_neg c] at h
      split at h
      · omega
      · obtain ⟨u, hu, hp⟩ := ih h
        exact ⟨u, by simp [hu], hp⟩
theorem flat_le {m : Nat} : ∀ {L : List Tr}, SmT m L → (L.flatMap (·.1)).length ≤ L.length * m
  | [], _ => by simp
  | t :: L, h => by
    have h1 := flat_le (L := L) fun x hx => h x (by simp [hx])
    have h2 := (h t (by simp)).1
    simp only [List.flatMap_cons, List.length_append, List.length_cons, Nat.add_mul]
    omega
/-- What tiers come to has no more pairs than they add. -/
theorem those_few {m : Nat} {L : List Tr} (h : SmT m L) : (those L 1).length ≤ L.length * m := by
  refine Nat.le_trans (length_le_of (m := L.flatMap (·.1)) (those_run L 1).nodup fun p hp => ?_) (flat_le h)
  have := (those_mem (by decide) p).1 hp
  obtain ⟨t, ht, hq⟩ := sayR_add this
  exact List.mem_flatMap.2 ⟨t, by simpa using ht, hq⟩
theorem ownL_s9 (L : List Tr) : SmT 16 (ownL L) := by
  intro t ht
  obtain ⟨u, _, rfl⟩ := List.mem_map.1 ht
  simp [few16]
  omega
theorem ownL_w9 {L : List Tr} (h : Wl L) : Wl (ownL L) := by
  intro t ht
  obtain ⟨u, hu, rfl⟩ := List.mem_map.1 ht
  have := h u (List.mem_of_mem_take hu)
  exact ⟨fun p hp => this.1 p (List.mem_of_mem_take hp), fun p hp => this.2 p (List.mem_of_mem_take hp)⟩
end Go.Proofs.Kit
namespace Go.Proofs.Ytlhigfphfbmbjaa
open Go.RowKit Go.Proofs.Kit Go.Shelf
theorem segP_one9 {w : World} (x y : Int) : SegP (w.alloc (.cells #[.int .u64 x, .int .u64 y] 53)) (.slice (some ⟨w.heap.size, 0, none⟩) 1 1) [(x, y)] :=
  SegP.of_blk (l := [(x, y)]) (cap := 1) (Blk.new _ _ _) (by simp) (by decide) rfl
set_option maxRecDepth 100000 in
set_option maxHeartbeats 16000000 in
theorem all_true (o : Option Addr) (n c : Nat) (X : List Tr) (w : World) (hl : X.length = n) (hc : n ≤ c) (hm : c ≤ 9223372036854775807) (ha : ArgT w o c X) (hw : Wl X) :
    Calls Try.prog 8 #[.slice o n c] w fun e w' => e = .returned (.bool true) ∧ Below w.heap.size w w' := by
  obtain ⟨i0, hi0, hz0, hz1, hz2⟩ := infoP
  have HA := Lib.hid (fun W (hb : Below w.heap.size w W) => own13_any o n c X W hl hc hm (ha.later hb))
  obtain ⟨L, hL⟩ : ∃ L, L = ownL X := ⟨_, rfl⟩
  rw [← hL] at HA
  have HW := Lib.hid (show Wl L by rw [hL]; exact ownL_w9 hw)
  have HS := Lib.hid (show SmT 16 L by rw [hL]; exact ownL_s9 X)
  clear hl hc hm ha hw hL
  go_enter Try.func8, Try.ntmps8
  go_wp2_with fail
  refine (wakes13_true _).mono ?_
  rintro e w1 ⟨rfl, b1⟩
  have L1 := Lib.hid b1
  clear b1
  go_wp2_with fail
  refine (HA.out _ L1.out).mono ?_
  rintro e w2 ⟨v2, rfl, o2, b2⟩
  have hs2 := o2.seg
  obtain ⟨ol, cl, rfl⟩ := o2.shape
  obtain ⟨nl, hnl⟩ : ∃ nl, nl = L.length := ⟨_, rfl⟩
  rw [← hnl] at hs2 ⊢
  have HNL := Lib.hid hnl
  have L2 := Lib.hid (below_later L1.out b2)
  have S2 := Lib.hid hs2
  clear o2 b2 hs2 hnl HA
  by_cases hg : goodT L
  · have HO := Lib.hid (vOf_any _ L w2 S2.out hg HW.out (HS.out.mono (by decide)))
    have hRl : (those L 1).length ≤ 384 := by
      have h1 := those_few HS.out
      have h2 := hg.2
      omega
    obtain ⟨R, hR⟩ : ∃ R, R = those L 1 := ⟨_, rfl⟩
    rw [← hR] at HO hRl
    have HR := Lib.hid hR
    have HRL := Lib.hid hRl
    have HG := Lib.hid hg
    clear hR hg
    go_wp2_with fail
    refine HO.out.mono ?_
    rintro e w3 ⟨lo, hi, a, rfl, v3, hlo, b3⟩
    have hbox := v3.box
    have htop := v3.top
    have V3 := Lib.hid v3
    have L3 := Lib.hid (below_later L2.out b3)
    have LO3 := Lib.hid b3
    have HRE := Lib.hid (vRest_any v3 (by omega))
    clear v3 b3 HO
    go_wp2_with fail
    refine HRE.out.mono ?_
    rintro e w4 ⟨v4, rfl, o4, b4⟩
    obtain ⟨or, cr, rfl⟩ := o4.shape
    obtain ⟨nr, hnr⟩ : ∃ nr, nr = R.length := ⟨_, rfl⟩
    rw [← hnr] at o4 ⊢
    have HNR := Lib.hid hnr
    have hb4 := b4.size
    have LO4 := Lib.hid (below_later LO3.out b4)
    have L4 := Lib.hid (below_later L3.out b4)
    have V4 := Lib.hid (V3.out.later b4)
    have R4 := Lib.hid (And.intro o4 (fun g hg => (o4.lt g hg).2))
    have hlow2 := L2.out.size
    clear HRE b4 o4 hnr
    go_wp2_with fail
    go_loopw [7, 33] (fun s7 s33 wr => ∃ (k : Nat) (pre r : List Pr), s33 = .int .i64 (k : Int) ∧ k ≤ 416 ∧ pre.length = k ∧ Hid (pre ++ r = R) ∧ Hid (VS 100 lo lo hi wr a L r) ∧ Hid (OwnP 53 w4.heap.size wr s7 pre) ∧ Hid (OwnP 53 w3.heap.size wr (.slice or nr cr) R) ∧ Hid (Below lo w4 wr)) (fun _ s33 _ => 416 - (intOf s33).toNat)
    case atStart => exact ⟨0, [], R, rfl, by omega, rfl, Lib.hid rfl, V4, Lib.hid (OwnP.nil _ _ _), Lib.hid R4.out.1, Lib.hid (Below.refl _ _)⟩
    case round =>
      obtain ⟨k, pre, r, rfl, hk, hpk, HPR, HV, HO, HRR, HL⟩ := hrel
      have HAT := Lib.hid (vAt_any HV.out)
      obtain ⟨op, cp, rfl⟩ := HO.out.shape
      rw [hpk] at HO ⊢
      have hk384 : k ≤ 384 := by
        have h1 := HPR.out
        have h2 := HRL.out
        rw [← h1, List.length_append] at h2
        omega
      have hdl : decide ((k : Int) < 416) = true := decide_eq_true (by omega)
      have hlo4 : lo ≤ w4.heap.size := by have := V4.out.box; have := V4.out.top; omega
      cases r with
      | nil =>
        simp only [hd9] at HAT
        have hRp : pre = R := by have := HPR.out; rwa [List.append_nil] at this
        have HRP := Lib.hid hRp
        clear hRp
        go_wp2_with fail
        refine HAT.out.mono ?_
        rintro e w5 ⟨rfl, b5⟩
        have gA := Gr.alloc w5 (.cells #[.int .u64 0, .int .u64 0] 53)
        have B5 := Lib.hid (below_later b5 gA.below)
        have HA2 := Lib.hid (vAt_any (HV.out.later B5.out))
        simp only [hd9] at HA2
        clear b5 gA HAT
        go_wp2_with fail
        refine HA2.out.mono ?_
        rintro e w6 ⟨rfl, b6⟩
        have gA := Gr.alloc w6 (.cells #[.int .u64 0, .int .u64 0] 53)
        have B6 := Lib.hid (below_later (below_later B5.out b6) gA.below)
        have HNX := Lib.hid (vNext_end (HV.out.later B6.out))
        clear b6 gA HA2
        go_wp2_with fail
        refine HNX.out.mono ?_
        rintro e w7 ⟨rfl, b7⟩
        have B7 := Lib.hid (below_later B6.out b7)
        have HEQ := Lib.hid (equalP_seg _ _ pre R w7 (HO.out.seg.later B7.out) (HRR.out.seg.later B7.out))
        rw [decide_eq_true HRP.out] at HEQ
        clear b7 HNX
        go_wp2_with fail
        refine HEQ.out.mono ?_
        rintro e w8 ⟨rfl, g8⟩
        have B8 := Lib.hid (below_later B7.out g8.below)
        have LW := Lib.hid ((L4.out.trans (HL.out.mono (by omega))).trans (B8.out.mono (by have := HL.out.size; omega)))
        have HCO := Lib.hid (content11_any _ L w8 ((S2.out.later (LO4.out.trans (HL.out.mono hlo))).later B8.out) HW.out (HS.out.mono (by decide)))
        rw [show cont L = R by rw [HR.out]; exact if_pos HG.out] at HCO
        clear g8 HEQ
        go_wp2_with fail
        refine HCO.out.mono ?_
        rintro e w9 ⟨v9, rfl, o9, b9⟩
        obtain ⟨oq, cq, rfl⟩ := o9.shape
        have B9 := Lib.hid (below_later B8.out b9)
        have HEQ := Lib.hid (equalP_seg _ _ R R w9 (HRR.out.seg.later B9.out) o9.seg)
        rw [decide_eq_true rfl] at HEQ
        have LW9 := Lib.hid (below_later LW.out b9)
        clear o9 b9 HCO LW
        rw [← HNR.out] at HEQ
        rw [← HNR.out]
        go_wp2_with fail
        refine HEQ.out.mono ?_
        rintro e w10 ⟨rfl, g10⟩
        have HCK := Lib.hid (check_any _ pre w10 ((HO.out.seg.later B9.out).later g10.below))
        rw [show ckP pre = 0 from if_pos ⟨by rw [HRP.out, HR.out]; exact those_run L 1, by omega⟩] at HCK
        have LW10 := Lib.hid (below_later LW9.out g10.below)
        clear g10 HEQ LW9
        go_wp2_with fail
        refine HCK.out.mono ?_
        rintro e w11 ⟨rfl, g11⟩
        have LW11 := Lib.hid (below_later LW10.out g11.below)
        go_wp2
        go_ret
        exact ⟨rfl, LW11.out⟩
      | cons p r =>
        obtain ⟨x, y⟩ := p
        simp only [hd9] at HAT
        have HRR' := Lib.hid (And.intro HRR.out R4.out.2)
        go_wp2_with fail
        refine HAT.out.mono ?_
        rintro e w5 ⟨rfl, b5⟩
        have gA := Gr.alloc w5 (.cells #[.int .u64 x, .int .u64 y] 53)
        have B5 := Lib.hid (below_later b5 gA.below)
        have K5 := Lib.hid (Blk.new w5 #[.int .u64 x, .int .u64 y] 53)
        have HSO := Lib.hid (show SegP ((w5.alloc (.cells #[.int .u64 x, .int .u64 y] 53)).alloc (.cells #[.int .u64 x, .int .u64 y] 53)) (.slice (some ⟨w5.heap.size + 1, 0, none⟩) 1 1) [(x, y)] by simpa using segP_one9 (w := w5.alloc (.cells #[.int .u64 x, .int .u64 y] 53)) x y)
        clear b5 gA HAT
        go_wp2_with (first | (at_builtin; refine wpList_append_segP rfl _ _ 22 rfl w4.heap.size 53 i0 (.agg #[.int .u64 0, .int .u64 0]) Try.underlying22 hi0 hz0 hz1 hz2 rfl _ pre rfl ((HO.out.later B5.out).alloc _) _ [(x, y)] rfl HSO.out (by simp; omega) (by have h1 := HL.out.size; have h2 := B5.out.size; simp at h2; simp; omega) (fun v' w6 hO6 hb6 hg6 _ => ?_)) | fail)
        obtain ⟨Wx, hWx⟩ : ∃ Wx, Wx = (w5.alloc (.cells #[.int .u64 x, .int .u64 y] 53)).alloc (.cells #[.int .u64 x, .int .u64 y] 53) := ⟨_, rfl⟩
        rw [← hWx] at hb6 hg6
        have hg6 : Wx.grownBy w6 (Value.slice op k cp).ownBlock := hg6
        have BX : Below wr.heap.size wr Wx := by rw [hWx]; exact below_later B5.out (Gr.alloc _ _).below
        have hh4 : hi ≤ w4.heap.size := V4.out.top
        have h4r := HL.out.size
        have hrx := BX.size
        have hne : ∀ g, g < w4.heap.size → some g ≠ (Value.slice op k cp).ownBlock := fun g hg e => by
          have := (HO.out.lt g e.symm).1
          omega
        have v6 : VS 100 lo lo hi w6 a L ((x, y) :: r) := (HV.out.later BX).keep ⟨hg6.size, fun j h1 h2 => hg6.block j (by omega) (fun e => hne j (by omega) e)⟩
        have r6 : OwnP 53 w3.heap.size w6 (.slice or nr cr) R := (HRR'.out.1.later BX).same fun g hg => hg6.block g (by have := HRR'.out.2 g hg; omega) (fun e => hne g (HRR'.out.2 g hg) e)
        have l6 : Below lo w4 w6 := (HL.out.trans (BX.mono (by omega))).trans (hb6.mono hlo4)
        have HNX := Lib.hid (vNext_any v6)
        have H6 := Lib.hid (And.intro hO6 (And.intro r6 l6))
        clear hO6 hb6 hg6 hWx BX hne v6 r6 l6 HSO
        refine HNX.out.mono ?_
        rintro e w7 ⟨rfl, v7, m7⟩
        have o7 := m7.own9 H6.out.1 hh4
        have r7 := m7.own9 H6.out.2.1 htop
        have l7 : Below lo w4 w7 := H6.out.2.2.trans (m7.below (fun j hj => hj.1) (by have := H6.out.2.2.size; omega))
        have H7 := Lib.hid (And.intro v7 (And.intro o7 (And.intro r7 l7)))
        clear v7 m7 o7 r7 l7 HNX
        go_wp2
        go_roundw
        case rel => exact ⟨k + 1, pre ++ [(x, y)], r, by go_num, by omega, by rw [List.length_append, hpk]; rfl, Lib.hid (by rw [List.append_assoc]; exact HPR.out), Lib.hid H7.out.1, Lib.hid H7.out.2.1, Lib.hid H7.out.2.2.1, Lib.hid H7.out.2.2.2⟩
        case measure => simp [intOf]; omega
  · have HO := Lib.hid (vOf_no _ L w2 S2.out hg (HS.out.mono (by decide)))
    have hck := ckT_no hg
    go_wp2_with fail
    refine HO.out.mono ?_
    rintro e w3 ⟨rfl, b3⟩
    have HCK := Lib.hid (check11_any _ L w3 (S2.out.later b3) (HS.out.mono (by decide)))
    rw [hck] at HCK
    have L3 := Lib.hid (below_later L2.out b3)
    clear b3 HO
    go_wp2_with fail
    refine HCK.out.mono ?_
    rintro e w4 ⟨rfl, b4⟩
    have L4 := Lib.hid (below_later L3.out b4)
    go_wp2
    go_ret
    exact ⟨rfl, L4.out⟩
end Go.Proofs.Ytlhigfphfbmbjaa

