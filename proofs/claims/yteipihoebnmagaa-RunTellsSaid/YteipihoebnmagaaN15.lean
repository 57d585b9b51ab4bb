/- RunParts: the law's walk. -/
import Derived.Test.YteipihoebnmagaaN14
namespace Go.Proofs.Yteipihoebnmagaa
open Go.RowKit Go.Proofs.Kit
theorem cmb_run (k0 k1 k2 : Bool) (a b : List Pr) : Run (cmb k0 k1 k2 a b) := by
  unfold cmb
  split
  · rename_i h; exact comb_run h.1.1 h.2.1 _ _ _
  · exact Run.nil
theorem comb_le (k0 k1 k2 : Bool) (a b : List Pr) : (comb k0 k1 k2 a b).length ≤ a.length + b.length := Nat.le_trans (keepP_len _ _ _ _) (tog_len _ _)
theorem cmb_le (k0 k1 k2 : Bool) (a b : List Pr) : (cmb k0 k1 k2 a b).length ≤ a.length + b.length := by
  unfold cmb
  split
  · exact comb_le _ _ _ _ _
  · simp
theorem cmb_mem {a b : List Pr} (h : okP a ∧ okP b) (k0 k1 k2 : Bool) (p : Pr) : p ∈ cmb k0 k1 k2 a b ↔ (k0 = true ∧ p ∈ a ∧ p ∉ b) ∨ (k1 = true ∧ p ∈ a ∧ p ∈ b) ∨ (k2 = true ∧ p ∉ a ∧ p ∈ b) := by
  rw [cmb, if_pos h]
  exact comb_mem h.1.1 h.2.1 _ _ _ p
theorem cmb_parts {a b : List Pr} (h : okP a ∧ okP b) (hs : a.length + b.length ≤ 1000) : cmb true true true (cmb true false false a b) (cmb false true false a b) = a := by
  have h' : okP (cmb true false false a b) ∧ okP (cmb false true false a b) := ⟨⟨cmb_run _ _ _ _ _, Nat.le_trans (cmb_le _ _ _ _ _) (by omega)⟩, ⟨cmb_run _ _ _ _ _, Nat.le_trans (cmb_le _ _ _ _ _) (by omega)⟩⟩
  refine run_ext (cmb_run _ _ _ _ _) h.1.1 fun p => ?_
  rw [cmb_mem h', cmb_mem h, cmb_mem h]
  by_cases h1 : p ∈ a <;> by_cases h2 : p ∈ b <;> simp [h1, h2]
theorem cmb_swap {a b : List Pr} (h : okP a ∧ okP b) : cmb true true true b a = cmb true true true a b := by
  refine run_ext (cmb_run _ _ _ _ _) (cmb_run _ _ _ _ _) fun p => ?_
  rw [cmb_mem ⟨h.2, h.1⟩, cmb_mem h]
  by_cases h1 : p ∈ a <;> by_cases h2 : p ∈ b <;> simp [h1, h2]
theorem cmb_count {a b : List Pr} (h : okP a ∧ okP b) : (cmb true true true a b).length + (cmb false true false a b).length = a.length + b.length := by
  rw [cmb, cmb, if_pos h, if_pos h]
  exact comb_count a b
theorem cmb_meet_le {a b : List Pr} (h : okP a ∧ okP b) : (cmb false true false a b).length ≤ a.length := by
  rw [cmb, if_pos h]
  have hsub : ∀ (a b : List Pr), (comb false true false a b).length ≤ a.length := by
    intro a b
    have h1 := comb_count a b
    have h2 : b.length ≤ (comb true true true a b).length := by
      have : ∀ a b : List Pr, b.length ≤ (tog a b).length := by
        intro a b
        fun_induction tog a b <;> simp_all <;> omega
      have e : comb true true true a b = (tog a b).map (·.1) := by
        unfold comb keepP
        rw [List.filter_eq_self.2 (fun x _ => by simp [keepF])]
      rw [e, List.length_map]
      exact this a b
    omega
  exact hsub a b
theorem ck2_yes {a b : List Pr} (h : okP a ∧ okP b) : ck2 a b = 0 := if_pos h
theorem ck2_no {a b : List Pr} (h : ¬ (okP a ∧ okP b)) : ck2 a b = 130 := if_neg h
theorem cmb_no {a b : List Pr} (h : ¬ (okP a ∧ okP b)) (k0 k1 k2 : Bool) : cmb k0 k1 k2 a b = [] := if_neg h
theorem hasP_of {l : List Pr} (h : okP l) (p : Pr) : hasP l p = decide (p ∈ l) := by
  unfold hasP
  rw [decide_eq_decide]
  exact ⟨fun h => h.2, fun k => ⟨h, k⟩⟩
theorem has_is (v : Value) (l : List Pr) (w : World) (hs : SegP w v l) (p1 p2 : Int) (t : Bool) (ht : hasP l (p1, p2) = t) :
    Calls Try.prog 19 #[v, PV p1 p2] w fun e w' => e = .returned (.bool t) ∧ Gr w w' := ht ▸ has_any v l w hs p1 p2
set_option maxRecDepth 100000 in
set_option maxHeartbeats 4000000 in
theorem parts_true (ox : Option Addr) (nx cx : Nat) (X : List Pr) (oy : Option Addr) (ny cy : Nat) (Y : List Pr) (w : World)
    (hlx : X.length = nx) (hcx : nx ≤ cx) (hmx : cx ≤ 9223372036854775807) (hx : ArgP w ox cx X) (hly : Y.length = ny) (hcy : ny ≤ cy) (hmy : cy ≤ 9223372036854775807) (hy : ArgP w oy cy Y) :
    Calls Try.prog 6 #[.slice ox nx cx, .slice oy ny cy] w fun e w' => e = .returned (.bool true) ∧ Below w.heap.size w w' := by
  have hmix := mixed
  have HLX := Lib.hid hlx
  have HLY := Lib.hid hly
  have HX := Lib.hid hx
  have HY := Lib.hid hy
  clear hlx hly hx hy
  obtain ⟨A, hA⟩ : ∃ A, A = X.take 40 := ⟨_, rfl⟩
  obtain ⟨B, hB⟩ : ∃ B, B = Y.take 40 := ⟨_, rfl⟩
  have hA40 : A.length ≤ 40 := by rw [hA]; simp; omega
  have hB40 : B.length ≤ 40 := by rw [hB]; simp; omega
  have HA := Lib.hid hA
  have HB := Lib.hid hB
  clear hA hB
  go_enter Try.func6, Try.ntmps6
  go_wp2_with fail
  refine (wakes_true _).mono ?_
  rintro e w1 ⟨rfl, B1⟩
  go_wp2_with fail
  refine (fewP_any ox nx cx X _ HLX.out hcx hmx (HX.out.later B1)).mono ?_
  rw [← HA.out]
  rintro e w2 ⟨va, rfl, oa, b2⟩
  have B2 := below_later B1 b2
  have OA := Lib.hid oa
  clear oa b2 B1
  go_wp2_with fail
  refine (fewP_any oy ny cy Y _ HLY.out hcy hmy (HY.out.later B2)).mono ?_
  rw [← HB.out]
  rintro e w3 ⟨vb, rfl, ob, b3⟩
  have B3 := below_later B2 b3
  have OB := Lib.hid ob.seg
  have OA := Lib.hid (OA.out.later b3).seg
  clear ob b3 B2 HX HY HLX HLY
  go_wp2_with fail
  refine (union_any _ _ A B _ OA.out OB.out (by omega)).mono ?_
  rintro e w4 ⟨vu, rfl, ou, b4⟩
  have B4 := below_later B3 b4
  have OA := Lib.hid (OA.out.later b4)
  have OB := Lib.hid (OB.out.later b4)
  have OU := Lib.hid ou.seg
  obtain ⟨pu, cu, rfl⟩ := ou.shape
  clear ou b4 B3
  by_cases hok : okP A ∧ okP B
  · have hck := ck2_yes hok
    have hu1 := cmb_le true true true A B
    have hm1 := cmb_le true false false A B
    have hn1 := cmb_le false true false A B
    have hcnt := cmb_count hok
    have hnle := cmb_meet_le hok
    have hpart := cmb_parts hok (by omega)
    have hswap := cmb_swap hok
    have hckU : ckP (cmb true true true A B) = 0 := ckP_yes ⟨cmb_run _ _ _ _ _, by omega⟩
    have hck2 : ck2 (cmb true false false A B) (cmb false true false A B) = 0 := ck2_yes ⟨⟨cmb_run _ _ _ _ _, by omega⟩, cmb_run _ _ _ _ _, by omega⟩
    have hck3 : ck2 B A = 0 := ck2_yes ⟨hok.2, hok.1⟩
    have hmU := fun p => cmb_mem hok true true true p
    have hmN := fun p => cmb_mem hok false true false p
    have hhA := fun p => hasP_of hok.1 p
    have hhB := fun p => hasP_of hok.2 p
    have hokN : okP (cmb false true false A B) := ⟨cmb_run _ _ _ _ _, by omega⟩
    have hhN := fun p => hasP_of hokN p
    obtain ⟨U, hU⟩ : ∃ U, U = cmb true true true A B := ⟨_, rfl⟩
    obtain ⟨M, hM⟩ : ∃ M, M = cmb true false false A B := ⟨_, rfl⟩
    obtain ⟨N, hN⟩ : ∃ N, N = cmb false true false A B := ⟨_, rfl⟩
    rw [← hU] at hu1 hcnt hckU hmU OU hswap
    rw [← hM] at hm1 hck2 hpart
    rw [← hN] at hn1 hcnt hnle hck2 hpart hmN hhN
    have HMU := Lib.hid hmU
    have HMN := Lib.hid hmN
    have HHA := Lib.hid hhA
    have HHB := Lib.hid hhB
    have HHN := Lib.hid hhN
    have HPART := Lib.hid hpart
    have HSWAP := Lib.hid hswap
    have HCKU := Lib.hid hckU
    have HCK2 := Lib.hid hck2
    have HCK3 := Lib.hid hck3
    have HCKAB := Lib.hid hck
    have HM := Lib.hid hM
    have HN := Lib.hid hN
    rw [← hU, hck]
    clear hmU hmN hhA hhB hhN hpart hswap hckU hck2 hck3 hokN hU hM hN hok hck
    obtain ⟨nu, hnu⟩ : ∃ n, n = U.length := ⟨_, rfl⟩
    rw [← hnu] at hu1 hcnt OU ⊢
    have HNU := Lib.hid hnu
    clear hnu
    go_wp2_with fail
    refine (minus_any _ _ A B _ OA.out OB.out (by omega)).mono ?_
    rw [← HM.out]
    rw [show ck2 A B = 0 from HCKAB.out]
    rintro e w5 ⟨vm, rfl, om, b5⟩
    have B5 := below_later B4 b5
    have OA := Lib.hid (OA.out.later b5)
    have OB := Lib.hid (OB.out.later b5)
    have OU := Lib.hid (OU.out.later b5)
    have OM := Lib.hid om.seg
    obtain ⟨pm, cm, rfl⟩ := om.shape
    clear om b5 B4
    go_wp2_with fail
    refine (meet_any _ _ A B _ OA.out OB.out (by omega)).mono ?_
    rw [← HN.out]
    rw [show ck2 A B = 0 from HCKAB.out]
    rintro e w6 ⟨vn, rfl, on, b6⟩
    have B6 := below_later B5 b6
    have OA := Lib.hid (OA.out.later b6)
    have OB := Lib.hid (OB.out.later b6)
    have OU := Lib.hid (OU.out.later b6)
    have OM := Lib.hid (OM.out.later b6)
    have ON := Lib.hid on.seg
    obtain ⟨pn, cn, rfl⟩ := on.shape
    clear on b6 B5
    go_wp2_with fail
    refine (union_any _ _ M N _ OM.out ON.out (by omega)).mono ?_
    rw [HPART.out, HCK2.out]
    rintro e w7 ⟨vw, rfl, ow, b7⟩
    have B7 := below_later B6 b7
    have OA := Lib.hid (OA.out.later b7)
    have OB := Lib.hid (OB.out.later b7)
    have OU := Lib.hid (OU.out.later b7)
    have ON := Lib.hid (ON.out.later b7)
    have OW := Lib.hid ow.seg
    clear ow b7 B6 OM
    go_wp2_with fail
    refine (union_any _ _ B A _ OB.out OA.out (by omega)).mono ?_
    rw [HSWAP.out, HCK3.out]
    rintro e w8 ⟨vv, rfl, ov, b8⟩
    have B8 := below_later B7 b8
    have OA := Lib.hid (OA.out.later b8)
    have OB := Lib.hid (OB.out.later b8)
    have OU := Lib.hid (OU.out.later b8)
    have ON := Lib.hid (ON.out.later b8)
    have OW := Lib.hid (OW.out.later b8)
    have OV := Lib.hid ov.seg
    clear ov b8 B7
    go_wp2_with fail
    refine (equalP_seg _ _ A A _ OW.out OA.out).mono ?_
    rw [show decide (A = A) = true from by simp]
    rintro e w9 ⟨rfl, g9⟩
    have B9 := below_later B8 g9.below
    have OA := Lib.hid (OA.out.later g9.below)
    have OB := Lib.hid (OB.out.later g9.below)
    have OU := Lib.hid (OU.out.later g9.below)
    have ON := Lib.hid (ON.out.later g9.below)
    have OV := Lib.hid (OV.out.later g9.below)
    clear g9 B8 OW
    go_wp2_with fail
    refine (equalP_seg _ _ U U _ OU.out OV.out).mono ?_
    rw [show decide (U = U) = true from by simp]
    rintro e w10 ⟨rfl, g10⟩
    have B10 := below_later B9 g10.below
    have OA := Lib.hid (OA.out.later g10.below)
    have OB := Lib.hid (OB.out.later g10.below)
    have OU := Lib.hid (OU.out.later g10.below)
    have ON := Lib.hid (ON.out.later g10.below)
    clear g10 B9 OV
    go_wp2_with fail
    refine (check_any _ U _ OU.out).mono ?_
    rw [HCKU.out]
    rintro e w11 ⟨rfl, g11⟩
    have B11 := below_later B10 g11.below
    have OA := Lib.hid (OA.out.later g11.below)
    have OB := Lib.hid (OB.out.later g11.below)
    have OU := Lib.hid (OU.out.later g11.below)
    have ON := Lib.hid (ON.out.later g11.below)
    clear g11 B10
    obtain ⟨pa, ca, rfl, _, _, _⟩ := OA.out.shape
    obtain ⟨pb, cb, rfl, _, _, _⟩ := OB.out.shape
    obtain ⟨na, hna⟩ : ∃ n, n = A.length := ⟨_, rfl⟩
    obtain ⟨nb, hnb⟩ : ∃ n, n = B.length := ⟨_, rfl⟩
    obtain ⟨nn, hnn⟩ : ∃ n, n = N.length := ⟨_, rfl⟩
    rw [← hna] at hA40 hcnt hnle OA ⊢
    rw [← hnb] at hB40 hcnt OB ⊢
    rw [← hnn] at hcnt hnle ON ⊢
    have HCNT := Lib.hid hcnt
    clear hna hnb hnn hcnt hu1 hm1 hn1
    have hnu80 : nu ≤ 80 := by have := HCNT.out; omega
    go_wp2
    go_loopw [93] (fun i wr => ∃ k : Nat, k ≤ nu ∧ i = .int .i64 (k : Int) ∧ Gr w11 wr) (fun i _ => nu - (intOf i).toNat)
    case atStart => exact ⟨0, by omega, rfl, Gr.refl _⟩
    case round =>
      obtain ⟨k, hk, rfl, hG⟩ := hrel
      by_cases hlt : k < nu
      · have hkl : k < U.length := by have := HNU.out; omega
        obtain ⟨bu, fu, rfl, hbu, hcells⟩ := OU.out.has hkl
        obtain ⟨d1, d2⟩ := (hcells.below hG.below hbu) k hkl
        have hbur : bu < wr.heap.size := Nat.lt_of_lt_of_le hbu hG.below.size
        have hmemU : U[k] ∈ U := List.getElem_mem hkl
        obtain ⟨x, hx⟩ : ∃ x, x = U[k] := ⟨_, rfl⟩
        rw [← hx] at d1 d2 hmemU
        clear hx hcells
        obtain ⟨x1, x2⟩ := x
        simp only at d1 d2
        have hu := (HMU.out (x1, x2)).1 hmemU
        have hn := HMN.out (x1, x2)
        have ha := HHA.out (x1, x2)
        have hb := HHB.out (x1, x2)
        have hnn := HHN.out (x1, x2)
        have hcases : (hasP A (x1, x2) = true ∧ hasP B (x1, x2) = true ∧ hasP N (x1, x2) = true) ∨ (hasP A (x1, x2) = true ∧ hasP B (x1, x2) = false ∧ hasP N (x1, x2) = false) ∨ (hasP A (x1, x2) = false ∧ hasP B (x1, x2) = true ∧ hasP N (x1, x2) = false) := by
          rw [ha, hb, hnn]
          simp only [decide_eq_true_eq, decide_eq_false_iff_not, hn]
          by_cases q1 : (x1, x2) ∈ A <;> by_cases q2 : (x1, x2) ∈ B <;> simp [q1, q2] at hu ⊢
        have hWA : ∀ W', Gr wr W' → SegP W' (.slice pa na ca) A := fun W' g => OA.out.later (hG.trans g).below
        have hWB : ∀ W', Gr wr W' → SegP W' (.slice pb nb cb) B := fun W' g => OB.out.later (hG.trans g).below
        have hWN : ∀ W', Gr wr W' → SegP W' (.slice pn nn cn) N := fun W' g => ON.out.later (hG.trans g).below
        have HWA := Lib.hid hWA
        have HWB := Lib.hid hWB
        have HWN := Lib.hid hWN
        clear hmemU hu hn ha hb hnn hWA hWB hWN
        go_wp2
        obtain ⟨wb, hwb⟩ : ∃ wb, wb = wr.alloc (.cells #[.int .u64 x1, .int .u64 x2] 30) := ⟨_, rfl⟩
        have bx : Blk wb wr.heap.size #[.int .u64 x1, .int .u64 x2] 30 := by rw [hwb]; exact Blk.new _ _ _
        have gb : Gr wr wb := by rw [hwb]; exact Gr.alloc _ _
        rw [← hwb]
        clear hwb d1 d2
        have e1 : ∀ n os, (Sort.grow (wb.drewN n) os).cell? ⟨wr.heap.size, 0, none⟩ = some (.int .u64 x1) := fun n os => cell_grown (a := ⟨wr.heap.size, 0, none⟩) bx.lt (bx.cell 0) n os
        have e2 : ∀ n os, (Sort.grow (wb.drewN n) os).cell? ⟨wr.heap.size, 1, none⟩ = some (.int .u64 x2) := fun n os => cell_grown (a := ⟨wr.heap.size, 1, none⟩) bx.lt (bx.cell 1) n os
        have GB := Lib.hid gb
        have HC := Lib.hid hcases
        clear bx gb hcases
        rcases HC.out with ⟨ta, tb, tn⟩ | ⟨ta, tb, tn⟩ | ⟨ta, tb, tn⟩
        all_goals
          have CA := Lib.hid (fun (n : Nat) (os : Array Obj) => Calls.gr_of (P := Try.prog) (has_is _ A _ (HWA.out _ (GB.out.trans (Gr.grown wb n os))) x1 x2 _ ta))
          have CB := Lib.hid (fun (n : Nat) (os : Array Obj) => Calls.gr_of (P := Try.prog) (has_is _ B _ (HWB.out _ (GB.out.trans (Gr.grown wb n os))) x1 x2 _ tb))
          have CN := Lib.hid (fun (n : Nat) (os : Array Obj) => Calls.gr_of (P := Try.prog) (has_is _ N _ (HWN.out _ (GB.out.trans (Gr.grown wb n os))) x1 x2 _ tn))
          clear HC ta tb tn
          go_quiet_grown (first | (go_at_call 19; with_reducible exact CA.out _ _) | (go_at_call 19; with_reducible exact CB.out _ _) | (go_at_call 19; with_reducible exact CN.out _ _))
          go_wp2
          go_roundw
          case rel => exact ⟨k + 1, by omega, by go_num, hG.trans (GB.out.trans (Gr.grown _ _ _))⟩
          case measure => simp [intOf]; omega
      · have hq : ((nu : Int) == (na : Int) + (nb : Int) - (nn : Int)) = true := by
          have := HCNT.out
          simp; omega
        have i1 : (nn : Int) ≤ (na : Int) := by omega
        go_wp2
        go_ret
        exact ⟨rfl, below_later B11 hG.below⟩
  · have hck := ck2_no hok
    have hu := cmb_no hok true true true
    rw [hu, hck]
    clear hok hck hu OU
    go_wp2
    go_ret
    exact ⟨rfl, B4⟩
end Go.Proofs.Yteipihoebnmagaa
