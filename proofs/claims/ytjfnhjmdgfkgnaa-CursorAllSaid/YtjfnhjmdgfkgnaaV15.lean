/- CursorAll: gone up to each end it comes by all pairs of the run. -/
import Derived.Test.YtjfnhjmdgfkgnaaVC
namespace Go.Proofs.Ytjfnhjmdgfkgnaa
open Go.RowKit Go.Proofs.Kit Go.Shelf

/-- Where the cursor stands ahead of the i-th branch, and ahead of its j-th leaf. -/
def xo (bs : List Br) (lv : List Int) (i : Nat) : Cs := ⟨1, (keysB bs).drop i, [], 1 + 2 * i + (prs (bs.take i) lv).length⟩
def xi (bs : List Br) (LV : List Int) (i S j : Nat) : Cs := ⟨2, (keysB bs).drop i, LV.drop j, S + 1 + j⟩
/-- What the loops keep. -/
structure AllI (lo r B : Nat) (w2 w : World) (bs : List Br) (lv : List Int) (X : Cs) (vl : Value) (L : List Pr) : Prop where
  low : Below lo w2 w
  cur : Cur lo r w bs lv X
  own : OwnP 83 B w vl L
  hr : lo ≤ r
  hB : r < B
  hs : B ≤ w.heap.size
theorem AllI.later {lo r B : Nat} {w2 w w' : World} {bs : List Br} {lv : List Int} {X : Cs} {vl : Value} {L : List Pr} (h : AllI lo r B w2 w bs lv X vl L) (hb : Below w.heap.size w w') : AllI lo r B w2 w' bs lv X vl L :=
  ⟨h.low.trans (hb.mono (by have := h.hr; have := h.hB; have := h.hs; omega)), h.cur.later hb, h.own.later hb, h.hr, h.hB, Nat.le_trans h.hs hb.size⟩
theorem AllI.mv {lo r B : Nat} {w2 w w' : World} {bs : List Br} {lv : List Int} {X X' : Cs} {vl : Value} {L : List Pr} (h : AllI lo r B w2 w bs lv X vl L) (hb : But r w w') (hc : Cur lo r w' bs lv X') : AllI lo r B w2 w' bs lv X' vl L :=
  ⟨h.low.trans (hb.below h.hr (by have := h.hr; have := h.hB; have := h.hs; omega)), hc, h.own.same fun g hg => hb.same g (by have := h.own.lt g hg; have := h.hB; omega) (h.own.lt g hg).2, h.hr, h.hB, Nat.le_trans h.hs hb.size⟩
theorem AllI.drew {lo r B : Nat} {w2 w : World} {bs : List Br} {lv : List Int} {X : Cs} {vl : Value} {L : List Pr} (h : AllI lo r B w2 w bs lv X vl L) : AllI lo r B w2 w.drew bs lv X vl L := h.later (Below.refl _ _).drew
theorem equalP_same {w : World} {v1 v2 : Value} {L : List Pr} (h1 : SegP w v1 L) (h2 : SegP w v2 L) : Calls Try.prog 48 #[v1, v2] w fun e w' => e = .returned (.bool true) ∧ Below w.heap.size w w' :=
  (equalP_seg v1 v2 L L w h1 h2).mono fun _ _ ⟨h, h'⟩ => ⟨by rw [h]; simp, h'.below⟩
theorem Cur.lower {lo r B : Nat} {w w' : World} {bs : List Br} {lv : List Int} {X : Cs} (h : Cur lo r w bs lv X) (hb : Below B w w') (hr : r < B) : Cur lo r w' bs lv X := by
  obtain ⟨ob, m, cb, ol, q, cl, ok, nk, ck, o0, n0, c0, o1, n1, c1, hk, h⟩ := h
  exact ⟨ob, m, cb, ol, q, cl, ok, nk, ck, o0, n0, c0, o1, n1, c1, hk.below hb hr, h.lower hb (Nat.le_of_lt hr)⟩
theorem AllI.app {lo r B : Nat} {w2 w w' : World} {bs : List Br} {lv : List Int} {X : Cs} {vl vl' : Value} {L L' : List Pr} (h : AllI lo r B w2 w bs lv X vl L) (hb : Below B w w') (ho : OwnP 83 B w' vl' L') : AllI lo r B w2 w' bs lv X vl' L' :=
  ⟨h.low.trans (hb.mono (by have := h.hr; have := h.hB; omega)), h.cur.lower hb h.hB, ho, h.hr, h.hB, Nat.le_trans h.hs hb.size⟩
theorem brAt_xo {bs : List Br} {lv : List Int} {i : Nat} (hi : i < bs.length) : brAt bs (xo bs lv i) = bs[i] := by
  unfold brAt xo
  simp only [List.length_drop, keysB_len]
  rw [show bs.length - (bs.length - i) = i by omega, getD_of hi]
theorem drop_cons {l : List Int} {i : Nat} (hi : i < l.length) : l.drop i = l[i] :: l.drop (i + 1) := List.drop_eq_getElem_cons hi
theorem xo_row (bs : List Br) (lv : List Int) (i : Nat) : (xo bs lv i).row = (keysB bs).drop i := by simp [xo, Cs.row]
theorem xi_row (bs : List Br) (LV : List Int) (i S j : Nat) : (xi bs LV i S j).row = LV.drop j := by simp [xi, Cs.row]
theorem xo_open {bs : List Br} {lv : List Int} {i q : Nat} (hi : i < bs.length) : cerr 1 (xo bs lv i) = 0 ∧ cgo bs lv 1 0 q (xo bs lv i) = xi bs (lvs lv bs[i]) i (xo bs lv i).s 0 := by
  have hne : (keysB bs).drop i ≠ [] := by rw [drop_cons (by rw [keysB_len]; exact hi)]; exact List.cons_ne_nil _ _
  refine ⟨by simp [cerr, xo, Cs.row, hne], ?_⟩
  have h1 : cgo bs lv 1 0 q (xo bs lv i) = copen bs lv (xo bs lv i) := rfl
  rw [h1]
  unfold copen
  rw [if_neg (by simp [xo]), brAt_xo hi]
  rfl
theorem xo_key {bs : List Br} {lv : List Int} {i : Nat} (hi : i < bs.length) : ckey (xo bs lv i) = bs[i].1 ∧ decide ((xo bs lv i).row ≠ []) = true := by
  unfold ckey
  rw [xo_row, drop_cons (by rw [keysB_len]; exact hi)]
  exact ⟨by show (keysB bs)[i]'_ = _; simp [keysB], decide_eq_true (List.cons_ne_nil _ _)⟩
theorem xo_end (bs : List Br) (lv : List Int) : decide ((xo bs lv bs.length).row ≠ []) = false := by
  rw [xo_row]
  simp [keysB]
theorem xi_key {bs : List Br} {LV : List Int} {i S j : Nat} (hj : j < LV.length) : ckey (xi bs LV i S j) = LV[j] ∧ decide ((xi bs LV i S j).row ≠ []) = true := by
  unfold ckey
  rw [xi_row, drop_cons hj]
  exact ⟨rfl, decide_eq_true (List.cons_ne_nil _ _)⟩
theorem xi_end (bs : List Br) (LV : List Int) (i S : Nat) : decide ((xi bs LV i S LV.length).row ≠ []) = false := by
  rw [xi_row]
  simp
theorem xi_next {bs : List Br} {lv LV : List Int} {i S j q : Nat} (hj : j < LV.length) : cerr 3 (xi bs LV i S j) = 0 ∧ cgo bs lv 3 0 q (xi bs LV i S j) = xi bs LV i S (j + 1) := by
  have hne : LV.drop j ≠ [] := by rw [drop_cons hj]; exact List.cons_ne_nil _ _
  refine ⟨by simp [cerr, xi, Cs.row, hne], ?_⟩
  have h1 : cgo bs lv 3 0 q (xi bs LV i S j) = (xi bs LV i S j).on 1 1 := rfl
  rw [h1, cs_on2 rfl]
  simp [xi]
  omega
theorem xi_up {bs : List Br} {lv LV : List Int} {i S q : Nat} : cerr 2 (xi bs LV i S LV.length) = 0 ∧ cgo bs lv 2 0 q (xi bs LV i S LV.length) = ⟨1, (keysB bs).drop i, [], S + 1 + LV.length⟩ := by
  refine ⟨by simp [cerr, xi], ?_⟩
  have h1 : cgo bs lv 2 0 q (xi bs LV i S LV.length) = cup (xi bs LV i S LV.length) := rfl
  rw [h1]
  unfold cup
  rw [if_neg (by simp [xi])]
  rfl
theorem xu_next {bs : List Br} {lv : List Int} {i q : Nat} (hi : i < bs.length) : cerr 3 ⟨1, (keysB bs).drop i, [], (xo bs lv i).s + 1 + (lvs lv bs[i]).length⟩ = 0 ∧ cgo bs lv 3 0 q ⟨1, (keysB bs).drop i, [], (xo bs lv i).s + 1 + (lvs lv bs[i]).length⟩ = xo bs lv (i + 1) := by
  have hne : (keysB bs).drop i ≠ [] := by rw [drop_cons (by rw [keysB_len]; exact hi)]; exact List.cons_ne_nil _ _
  refine ⟨by simp [cerr, Cs.row, hne], ?_⟩
  have h1 : ∀ X, cgo bs lv 3 0 q X = X.on 1 1 := fun _ => rfl
  rw [h1, cs_on1 rfl]
  simp only [xo, List.drop_drop]
  rw [prs_take_succ hi, List.length_append, List.length_map]
  simp only [Cs.mk.injEq, true_and]
  omega
theorem prs_len {bs : List Br} {lv : List Int} (hok : ok7 bs lv) {i : Nat} (hi : i ≤ bs.length) : (prs (bs.take i) lv).length ≤ lv.length := by
  have h1 := (upto hok.2.1 hok.2.2 i hi).len
  have h2 := hok.2.1.at i hi
  omega
set_option maxRecDepth 100000 in
set_option maxHeartbeats 16000000 in
theorem all_true (ob : Option Addr) (m cb : Nat) (ol : Option Addr) (q cl : Nat) (bs : List Br) (lv : List Int) (w : World) (hm : bs.length = m) (hmc : m ≤ cb) (hcb : cb ≤ 9223372036854775807) (ab : ArgR w ob cb bs) (hq : lv.length = q) (hqc : q ≤ cl) (hcl : cl ≤ 9223372036854775807) (al : ArgI .u64 w ol cl lv) (hu : U64s (keysB bs)) (hl : U64s lv) :
    Calls Try.prog 8 #[.agg #[.slice ob m cb, .slice ol q cl]] w fun e w' => e = .returned (.bool true) ∧ Below w.heap.size w w' := by
  have HOWN := Lib.hid (fun W (g : Below w.heap.size w W) => own8_any ob m cb ol q cl bs lv W hm hmc hcb (ab.later g) hq hqc hcl (al.later g))
  have hub : U64s (keysB (bs.take 40)) := fun x hx => hu x (by unfold keysB at hx ⊢; rw [List.map_take] at hx; exact List.mem_of_mem_take hx)
  have hul : U64s (lv.take 80) := fun x hx => hl x (List.mem_of_mem_take hx)
  have hb40 : (bs.take 40).length ≤ 40 := by simp; omega
  have hl80 : (lv.take 80).length ≤ 80 := by simp; omega
  obtain ⟨BS, hBS⟩ : ∃ BS, BS = bs.take 40 := ⟨_, rfl⟩
  obtain ⟨LS, hLS⟩ : ∃ LS, LS = lv.take 80 := ⟨_, rfl⟩
  rw [← hBS] at hub hb40 HOWN
  rw [← hLS] at hul hl80 HOWN
  have HUB := Lib.hid hub
  have HUL := Lib.hid hul
  have HB40 := Lib.hid hb40
  have HL80 := Lib.hid hl80
  obtain ⟨i0, hi, hz0, hz1, hz2⟩ := infoP
  clear hm hmc hcb ab hq hqc hcl al hu hl hub hul hb40 hl80 hBS hLS
  go_enter Try.func8, Try.ntmps8
  go_wp2_with fail
  refine (wakes8_true _).mono ?_
  rintro e w1 ⟨rfl, l1⟩
  have k1 := (Blk.new w #[.slice ob m cb, .slice ol q cl] 25).later l1
  have g1 : Below w.heap.size w w1 := ((Below.refl _ _).alloc (Nat.le_refl _) _).trans (l1.mono (by simp))
  obtain ⟨c0, c1, lc⟩ := k1.two
  clear k1 l1
  go_wp2_with fail
  refine (HOWN.out _ g1).mono ?_
  rintro e wo ⟨o1, m1, y1, o2, q2, y2, rfl, hOB, hOL, lo1⟩
  have go := g1.trans (lo1.mono g1.size)
  have hm1 := segR_lenV hOB.seg
  have hq1 := segU_len hOL.seg
  clear lo1 g1 c0 c1 lc HOWN
  go_wp2_with fail
  obtain ⟨w2, hw2⟩ : ∃ w2, w2 = wo.alloc (.cells #[.slice o1 m1 y1, .slice o2 q2 y2] 25) := ⟨_, rfl⟩
  have kT : Blk w2 wo.heap.size #[.slice o1 m1 y1, .slice o2 q2 y2] 25 := by rw [hw2]; exact Blk.new _ _ _
  have sB : SegR w2 (.slice o1 m1 y1) BS := by rw [hw2]; exact hOB.seg.alloc _
  have sL : Seg .u64 w2 (.slice o2 q2 y2) LS := by rw [hw2]; exact hOL.seg.alloc _
  have g2 : Below w.heap.size w w2 := by rw [hw2]; exact go.alloc go.size _
  obtain ⟨T, hT⟩ : ∃ T, T = wo.heap.size := ⟨_, rfl⟩
  rw [← hw2]
  rw [← hT] at kT ⊢
  have KT := Lib.hid kT
  have SB := Lib.hid sB
  have SL := Lib.hid sL
  have HM1 := Lib.hid hm1
  have HQ1 := Lib.hid hq1
  have hTl := kT.lt
  clear hw2 hT kT sB sL hOB hOL go hm1 hq1
  refine (cnew_any o1 m1 y1 o2 q2 y2 BS LS w2 SB.out SL.out HM1.out HQ1.out (by have := HM1.out; have := HB40.out; omega) (by have := HQ1.out; have := HL80.out; omega)).mono ?_
  by_cases hok : ok7 BS LS
  · rintro e w3 ⟨b3, hN⟩
    rw [if_pos hok] at hN
    obtain ⟨r, rfl, hr, hC⟩ := hN
    have HOK := Lib.hid hok
    obtain ⟨B, hB⟩ : ∃ B, B = w3.heap.size := ⟨_, rfl⟩
    have hrB : r < B := by
      obtain ⟨_, _, _, _, _, _, _, _, _, _, _, _, _, _, _, hk, _⟩ := hC
      rw [hB]
      exact hk.lt
    have hA3 : AllI w2.heap.size r B w2 w3 BS LS ⟨0, [], [], 0⟩ (.slice none 0 0) [] := ⟨b3, hC, OwnP.nil _ _ _, hr, hrB, by omega⟩
    have HA3 := Lib.hid hA3
    clear hA3 hC hB b3 hok
    go_wp2_with fail
    refine (kOpen_any HA3.out.cur (by simp) HUB.out HUL.out).mono ?_
    rintro e w4 hM
    obtain ⟨hb4, rfl, q4, _, hC4⟩ := mvd_ok hM (by simp [cerr])
    have e0 : cgo BS LS 1 0 q4 ⟨0, [], [], 0⟩ = xo BS LS 0 := by simp [cgo, copen, xo, prs]
    rw [e0] at hC4
    have HA4 := Lib.hid (HA3.out.mv hb4 hC4)
    have kt4 := (KT.out.below HA4.out.low hTl)
    obtain ⟨t0, t1, tl⟩ := kt4.two
    have hmb : m1 ≤ 40 := by have := HM1.out; have := HB40.out; omega
    have hqb : q2 ≤ 80 := by have := HQ1.out; have := HL80.out; omega
    clear hM hb4 hC4 e0 HA3 kt4
    go_wp2_with fail
    go_loopw [6, 7, 8, 9, 10, 37, 38, 39, 40, 41, 42, 43, 44, 45, 46, 47, 48, 49, 50, 51, 52, 53, 54, 55, 56, 57, 58, 59, 60, 61, 62, 63, 64, 65, 66, 67, 68, 69, 70, 71, 72, 73, 74, 75, 76, 77, 78, 79, 80] (fun s6 _ _ _ _ s37 _ _ _ _ _ _ _ _ _ _ _ _ _ _ _ _ _ _ _ _ _ _ _ _ _ _ _ _ _ _ _ _ _ _ _ _ _ _ _ _ _ _ _ wr => ∃ i : Nat, i ≤ BS.length ∧ s37 = .int .i64 (i : Int) ∧ Hid (AllI w2.heap.size r B w2 wr BS LS (xo BS LS i) s6 (prs (BS.take i) LS))) (fun _ _ _ _ _ s37 _ _ _ _ _ _ _ _ _ _ _ _ _ _ _ _ _ _ _ _ _ _ _ _ _ _ _ _ _ _ _ _ _ _ _ _ _ _ _ _ _ _ _ _ => BS.length + 1 - (intOf s37).toNat)
    case atStart => exact ⟨0, Nat.zero_le _, rfl, by simpa [prs] using HA4⟩
    case round =>
      obtain ⟨i, hi, rfl, HA⟩ := hrel
      have HI := Lib.hid hi
      have hx : (i : Int) < (m1 : Int) + 1 := by have := HM1.out; omega
      clear t0 t1 tl HA4
      by_cases hlt : i < BS.length
      · have HLT := Lib.hid hlt
        have hs0 : (xo BS LS i).s ≤ 300 := by
          have h1 := prs_len HOK.out hi
          have := HB40.out
          have := HL80.out
          show 1 + 2 * i + (prs (BS.take i) LS).length ≤ 300
          omega
        have HS0 := Lib.hid hs0
        clear hi hlt hs0
        go_wp2_with fail
        refine (kKey_any HA.out.cur).mono ?_
        rw [(xo_key HLT.out).1, (xo_key HLT.out).2]
        rintro e wa ⟨rfl, ba⟩
        have HA1 := Lib.hid (HA.out.later ba)
        clear ba HA
        go_wp2_with fail
        refine (kOpen_any HA1.out.cur (by have := HS0.out; omega) HUB.out HUL.out).mono ?_
        rintro e wb hM
        obtain ⟨hbb, rfl, qb, _, hCb⟩ := mvd_ok hM (xo_open (q := 0) HLT.out).1
        rw [(xo_open HLT.out).2] at hCb
        have hA2 := HA1.out.mv hbb hCb
        have hlv : (lvs LS (BS[i]'HLT.out)).length ≤ 80 := Nat.le_trans (lvs_sub LS _).length_le HL80.out
        have hlq : (lvs LS (BS[i]'HLT.out)).length ≤ q2 := by rw [← HQ1.out]; exact (lvs_sub LS _).length_le
        obtain ⟨LV, hLV⟩ : ∃ LV, LV = lvs LS (BS[i]'HLT.out) := ⟨_, rfl⟩
        obtain ⟨S, hS⟩ : ∃ S, S = (xo BS LS i).s := ⟨_, rfl⟩
        obtain ⟨PL, hPL⟩ : ∃ PL, PL = prs (BS.take i) LS := ⟨_, rfl⟩
        obtain ⟨k, hk⟩ : ∃ k, k = (BS[i]'HLT.out).1 := ⟨_, rfl⟩
        rw [← hLV, ← hS, ← hPL] at hA2
        rw [← hLV] at hlv hlq
        rw [← hS] at HS0
        rw [← hk]
        have hpl : PL.length ≤ 80 := by rw [hPL]; exact Nat.le_trans (prs_len HOK.out HI.out) HL80.out
        have HPLn := Lib.hid hpl
        have HLVn := Lib.hid hlv
        have HEQ := Lib.hid (And.intro hLV (And.intro hS (And.intro hPL hk)))
        have HA2 := Lib.hid hA2
        have kt4 := (KT.out.below hA2.low hTl)
        obtain ⟨t0, t1, tl⟩ := kt4.two
        clear hM hbb hCb hA2 hLV hS hPL hk HA1 kt4 hpl hlv
        go_wp2_with fail
        go_loopw [6, 9, 10, 53, 54, 55, 56, 57, 58, 59, 60, 61, 62, 63, 64, 65, 66, 67, 68, 69, 70, 71] (fun s6 _ _ s53 _ _ _ _ _ _ _ _ _ _ _ _ _ _ _ _ _ _ wq => ∃ j : Nat, j ≤ LV.length ∧ s53 = .int .i64 (j : Int) ∧ Hid (AllI w2.heap.size r B w2 wq BS LS (xi BS LV i S j) s6 (PL ++ (LV.take j).map fun n => (k, n)))) (fun _ _ _ s53 _ _ _ _ _ _ _ _ _ _ _ _ _ _ _ _ _ _ _ => LV.length + 1 - (intOf s53).toNat)
        case atStart => exact ⟨0, Nat.zero_le _, rfl, by simpa using HA2⟩
        case round =>
          obtain ⟨j, hj, rfl, HJ⟩ := hrel
          have hjx : (j : Int) < (q2 : Int) + 1 := by omega
          have HJL := Lib.hid hj
          clear t0 t1 tl HA2
          by_cases hjl : j < LV.length
          · have HJT := Lib.hid hjl
            clear hj hjl
            go_wp2_with fail
            refine (kKey_any HJ.out.cur).mono ?_
            rw [(xi_key HJT.out).1, (xi_key HJT.out).2]
            rintro e wc ⟨rfl, bc⟩
            have HJ1 := Lib.hid (HJ.out.later bc)
            obtain ⟨x, hxv⟩ : ∃ x, x = LV[j]'HJT.out := ⟨_, rfl⟩
            rw [← hxv]
            have HXV := Lib.hid hxv
            have hBc := HJ1.out.hs
            obtain ⟨ov, cv, ev⟩ := HJ1.out.own.shape
            obtain ⟨nv, hnv⟩ : ∃ nv, nv = (PL ++ (LV.take j).map fun n => (k, n)).length := ⟨_, rfl⟩
            rw [← hnv] at ev
            subst ev
            have hnb : (PL ++ (LV.take j).map fun n => (k, n)).length ≤ 200 := by
              rw [List.length_append, List.length_map, List.length_take]
              have := HPLn.out
              have := HLVn.out
              omega
            have HNB := Lib.hid hnb
            have hBa : B ≤ (wc.alloc (.cells #[.int .u64 k, .int .u64 x] 83)).heap.size := by simp; omega
            have HBA := Lib.hid hBa
            clear bc HJ hxv hBc hnv hnb hBa
            go_wp2_with (at_builtin; refine wpList_append_segP rfl _ _ 46 rfl B 83 i0 (.agg #[.int .u64 0, .int .u64 0]) Try.underlying46 hi hz0 hz1 hz2 rfl _ _ rfl ((HJ1.out.later ((Below.refl _ _).alloc (Nat.le_refl _) _)).own) _ [(k, x)] rfl ?qm ?q1 HBA.out ?_)
            case qm => exact SegP.of_blk (l := [(k, x)]) (cap := 1) (Blk.new _ _ _) (by simp) (by omega) rfl
            case q1 => have := HNB.out; simp only [List.length_cons, List.length_nil]; omega
            intro v' wd hOd hbd _ _
            have hA3 := (HJ1.out.later ((Below.refl _ _).alloc (Nat.le_refl _) (.cells #[.int .u64 k, .int .u64 x] 83))).app hbd hOd
            have HA3 := Lib.hid hA3
            clear hOd hbd hA3 HJ1
            go_wp2_with fail
            refine (kNext_any HA3.out.cur (by show S + 1 + j ≤ _; have := HS0.out; have := HJL.out; have := HLVn.out; omega) HUB.out HUL.out).mono ?_
            rintro e we hM
            obtain ⟨hbe, rfl, qe, _, hCe⟩ := mvd_ok hM (xi_next (lv := LS) (q := 0) HJT.out).1
            rw [(xi_next HJT.out).2] at hCe
            have HA4 := Lib.hid (HA3.out.mv hbe hCe)
            clear hM hbe hCe HA3
            go_wp2_with fail
            go_roundw
            · refine ⟨j + 1, HJT.out, by simp, ?_⟩
              have e9 : PL ++ (LV.take (j + 1)).map (fun n => (k, n)) = (PL ++ (LV.take j).map fun n => (k, n)) ++ [(k, x)] := by
                rw [List.take_succ_eq_append_getElem HJT.out, List.map_append, ← HXV.out, List.append_assoc]
                rfl
              rw [e9]
              have h := HA4.out
              rw [← List.map_take, ← List.append_assoc] at h
              exact Lib.hid h
            · have := HJT.out
              simp [intOf]
              omega
          · obtain rfl : j = LV.length := by omega
            clear hj hjl
            go_wp2_with fail
            refine (kKey_any HJ.out.cur).mono ?_
            rw [xi_end]
            rintro e wc ⟨rfl, bc⟩
            have HJ1 := Lib.hid (HJ.out.later bc)
            clear bc HJ
            go_wp2_with fail
            refine (kUp_any HJ1.out.cur (by show S + 1 + LV.length ≤ _; have := HS0.out; have := HLVn.out; omega) HUB.out HUL.out).mono ?_
            rintro e wd hM
            obtain ⟨hbd, rfl, qd, _, hCd⟩ := mvd_ok hM (xi_up (lv := LS) (q := 0)).1
            rw [xi_up.2] at hCd
            have HA3 := Lib.hid (HJ1.out.mv hbd hCd)
            clear hM hbd hCd HJ1
            go_wp2_with fail
            refine (kNext_any HA3.out.cur (by show S + 1 + LV.length ≤ _; have := HS0.out; have := HLVn.out; omega) HUB.out HUL.out).mono ?_
            rintro e we hM
            obtain ⟨eL, eS, eP, eK⟩ := HEQ.out
            have hn1 := xu_next (bs := BS) (lv := LS) (q := 0) HLT.out
            rw [← eL, ← eS] at hn1
            obtain ⟨hbe, rfl, qe, _, hCe⟩ := mvd_ok hM hn1.1
            have hn2 := xu_next (bs := BS) (lv := LS) (q := qe) HLT.out
            rw [← eL, ← eS] at hn2
            rw [hn2.2] at hCe
            have hA4 := HA3.out.mv hbe hCe
            have e9 : PL ++ (LV.take LV.length).map (fun n => (k, n)) = prs (BS.take (i + 1)) LS := by
              rw [prs_take_succ HLT.out, List.take_length, eP, eL, eK]
            rw [e9] at hA4
            have HA4 := Lib.hid hA4
            clear hM hbe hCe HA3 hn1 hn2 hA4 e9 eL eS eP eK
            go_wp2_with fail
            go_roundw
            · exact ⟨i + 1, HLT.out, by simp, HA4⟩
            · have := HLT.out
              simp [intOf]
              omega
      · obtain rfl : i = BS.length := by omega
        clear hi hlt
        go_wp2_with fail
        refine (kKey_any HA.out.cur).mono ?_
        rw [xo_end]
        rintro e wa ⟨rfl, ba⟩
        have hA1 := HA.out.later ba
        rw [List.take_length] at hA1
        have kt4 := (KT.out.below hA1.low hTl)
        obtain ⟨t0, t1, tl⟩ := kt4.two
        have HA1 := Lib.hid hA1
        clear ba HA hA1 kt4
        go_upto_region 27 with fail
        have hAL := (tri HOK.out).lenL
        have hstp : ((xo BS LS BS.length).s : Int) = 1 + 2 * (m1 : Int) + (q2 : Int) := by
          show ((1 + 2 * BS.length + (prs (BS.take BS.length) LS).length : Nat) : Int) = _
          rw [List.take_length, hAL, HM1.out, HQ1.out]
          omega
        have hrow : (xo BS LS BS.length).row.length = 0 := by rw [xo_row]; simp [keysB]
        obtain ⟨XE, hXE⟩ : ∃ XE, XE = xo BS LS BS.length := ⟨_, rfl⟩
        obtain ⟨PR, hPR⟩ : ∃ PR, PR = prs BS LS := ⟨_, rfl⟩
        rw [← hXE] at hstp hrow HA1
        rw [← hPR] at HA1
        have HRUN := Lib.hid (fun W (g : Below w2.heap.size w2 W) => yrun_any o1 m1 y1 o2 q2 y2 BS LS W (SB.out.later g) (SL.out.later g) HM1.out HQ1.out (by omega) (by omega))
        rw [show runOf BS LS = PR by unfold runOf; rw [if_pos HOK.out, hPR]] at HRUN
        have HSTP := Lib.hid (fun W (g : Cur w2.heap.size r W BS LS XE) => kSteps_any g)
        rw [hstp] at HSTP
        have HLEFT := Lib.hid (fun W (g : Cur w2.heap.size r W BS LS XE) => kLeft_any g)
        rw [hrow] at HLEFT
        have hk : ∀ W', AllI w2.heap.size r B w2 W' BS LS XE u6 PR → (W'.cell? ⟨T, 0, none⟩ = some (.slice o1 m1 y1) ∧ W'.cell? ⟨T, 1, none⟩ = some (.slice o2 q2 y2) ∧ T < W'.heap.size) ∧ AllI w2.heap.size r B w2 W' BS LS XE u6 PR := fun W' h =>
          ⟨⟨(KT.out.below h.low hTl).cell 0, (KT.out.below h.low hTl).cell 1, (KT.out.below h.low hTl).lt⟩, h⟩
        have HK := Lib.hid hk
        have hws := HA1.out
        obtain ⟨ov, cv, ev⟩ := hws.own.shape
        obtain ⟨nv, hnv⟩ : ∃ nv, nv = PR.length := ⟨_, rfl⟩
        rw [← hnv] at ev
        subst ev
        have G2 := Lib.hid g2
        have wr1 : IntKind.i64.wrap (2 * (m1 : Int)) = 2 * (m1 : Int) := by rw [IntKind.wrap_i64]; omega
        have wr2 : IntKind.i64.wrap (1 + 2 * (m1 : Int)) = 1 + 2 * (m1 : Int) := by rw [IntKind.wrap_i64]; omega
        have wr3 : IntKind.i64.wrap (1 + 2 * (m1 : Int) + (q2 : Int)) = 1 + 2 * (m1 : Int) + (q2 : Int) := by rw [IntKind.wrap_i64]; omega
        have i1 : (0 : Int) ≤ (m1 : Int) := by omega
        have i2 : (m1 : Int) ≤ 40 := by omega
        have i3 : (q2 : Int) ≤ 80 := by omega
        clear hk hAL hstp hrow hXE hPR hnv HA1 g2 t0 t1 tl
        go_region_held3 (fun W' => (W'.cell? ⟨T, 0, none⟩ = some (.slice o1 m1 y1) ∧ W'.cell? ⟨T, 1, none⟩ = some (.slice o2 q2 y2) ∧ T < W'.heap.size) ∧ AllI w2.heap.size r B w2 W' BS LS XE (.slice ov nv cv) PR)
          (first | exact HK.out _ hws | exact HK.out _ hws.drew)
          (first
            | (go_at_call 49; (with_reducible refine (HRUN.out _ (by first | exact hws.low | exact hws.drew.low)).mono ?_); rintro e w5 ⟨v5, rfl, hR, lF⟩; obtain ⟨o5, c5, rfl⟩ := hR.shape; have hws := (by first | exact hws.later lF | exact hws.drew.later lF : AllI w2.heap.size r B w2 w5 BS LS XE (.slice ov nv cv) PR); have hR := hR.seg)
            | (go_at_call 48; (with_reducible refine (equalP_same (by first | exact hws.own.seg | exact hws.drew.own.seg) (by first | exact hR | exact hR.later (Below.refl _ _).drew)).mono ?_); rintro e w6 ⟨rfl, lF⟩; have hws := (by first | exact hws.later lF | exact hws.drew.later lF : AllI w2.heap.size r B w2 w6 BS LS XE (.slice ov nv cv) PR))
            | (go_at_call 37; (with_reducible refine (HSTP.out _ (by first | exact hws.cur | exact hws.drew.cur)).mono ?_); rintro e w7 ⟨rfl, hw7⟩; subst hw7)
            | (go_at_call 45; (with_reducible refine (HLEFT.out _ (by first | exact hws.cur | exact hws.drew.cur)).mono ?_); rintro e w8 ⟨rfl, lF⟩; have hws := (by first | exact hws.later lF | exact hws.drew.later lF : AllI w2.heap.size r B w2 w8 BS LS XE (.slice ov nv cv) PR)))
        all_goals
          have hlow := below_later G2.out hws.low
          go_wp2_with fail
          go_ret
          exact ⟨rfl, hlow⟩
  · rintro e w3 ⟨b3, hN⟩
    rw [if_neg hok] at hN
    subst hN
    have HOK := Lib.hid hok
    have kt3 := KT.out.later b3
    obtain ⟨t0, t1, tl⟩ := kt3.two
    have g3 := g2.trans (b3.mono g2.size)
    have SB3 := Lib.hid (SB.out.later b3)
    have SL3 := Lib.hid (SL.out.later b3)
    clear kt3 b3 hok g2
    go_wp2_with fail
    refine (ycheck_any o1 m1 y1 o2 q2 y2 BS LS _ SB3.out SL3.out HM1.out HQ1.out (by have := HM1.out; have := HB40.out; omega) (by have := HQ1.out; have := HL80.out; omega)).mono ?_
    rw [if_neg HOK.out]
    rintro e w4 ⟨rfl, b4⟩
    have g4 := g3.trans (b4.mono g3.size)
    clear b4 g3 t0 t1 tl
    go_wp2_with fail
    go_ret
    exact ⟨rfl, g4⟩
end Go.Proofs.Ytjfnhjmdgfkgnaa

