/- RunMay: the law's walk. -/
import Derived.Test.YteipihoebnmagaaN20
namespace Go.Proofs.Yteipihoebnmagaa
open Go.RowKit Go.Proofs.Kit
/-- Two boxes of pairs. -/
def B2 (bx b' : Nat) (x1 x2 y1 y2 : Int) (w' : World) : Prop := Blk w' bx #[.int .u64 x1, .int .u64 x2] 30 ∧ Blk w' b' #[.int .u64 y1, .int .u64 y2] 30
theorem B2.later {bx b' : Nat} {x1 x2 y1 y2 : Int} {w' w'' : World} (h : B2 bx b' x1 x2 y1 y2 w') (hb : Below w'.heap.size w' w'') : B2 bx b' x1 x2 y1 y2 w'' := ⟨h.1.later hb, h.2.later hb⟩
theorem B2.cells {bx b' : Nat} {x1 x2 y1 y2 : Int} {w' : World} (h : B2 bx b' x1 x2 y1 y2 w') : w'.cell? ⟨bx, 0, none⟩ = some (.int .u64 x1) ∧ w'.cell? ⟨bx, 1, none⟩ = some (.int .u64 x2) ∧ w'.cell? ⟨b', 0, none⟩ = some (.int .u64 y1) ∧ w'.cell? ⟨b', 1, none⟩ = some (.int .u64 y2) := ⟨h.1.cell 0, h.1.cell 1, h.2.cell 0, h.2.cell 1⟩
theorem cf2_cases (x y : Pr) : (cf2 x y = -1 ∧ decide (lt2 x y) = true ∧ decide (lt2 y x) = false) ∨ (cf2 x y = 0 ∧ decide (lt2 x y) = false ∧ decide (lt2 y x) = false) ∨ (cf2 x y = 1 ∧ decide (lt2 x y) = false ∧ decide (lt2 y x) = true) := by
  have h1 := cf2_neg x y
  have h2 := cf2_pos x y
  have h3 := cf2_bd x y
  by_cases a : cf2 x y < 0
  · refine .inl ⟨by omega, by simpa using h1.1 a, ?_⟩
    simp only [decide_eq_false_iff_not]
    exact fun q => by have := h2.2 q; omega
  · by_cases b : 0 < cf2 x y
    · refine .inr (.inr ⟨by omega, ?_, by simpa using h2.1 b⟩)
      simp only [decide_eq_false_iff_not]
      exact fun q => a (h1.2 q)
    · refine .inr (.inl ⟨by omega, ?_, ?_⟩)
      · simp only [decide_eq_false_iff_not]
        exact fun q => a (h1.2 q)
      · simp only [decide_eq_false_iff_not]
        exact fun q => b (h2.2 q)
set_option maxRecDepth 100000 in
set_option maxHeartbeats 8000000 in
theorem may_true (ox : Option Addr) (nx cx : Nat) (X : List Pr) (w : World)
    (hlx : X.length = nx) (hcx : nx ≤ cx) (hmx : cx ≤ 9223372036854775807) (hx : ArgP w ox cx X) :
    Calls Try.prog 3 #[.slice ox nx cx] w fun e w' => e = .returned (.bool true) ∧ Below w.heap.size w w' := by
  have HLX := Lib.hid hlx
  have HX := Lib.hid hx
  clear hlx hx
  obtain ⟨L, hL⟩ : ∃ L, L = X.take 40 := ⟨_, rfl⟩
  have hL40 : L.length ≤ 40 := by rw [hL]; simp; omega
  have HL := Lib.hid hL
  clear hL
  go_enter Try.func3, Try.ntmps3
  go_wp2_with fail
  refine (wakes_true _).mono ?_
  rintro e w1 ⟨rfl, B1⟩
  go_wp2_with fail
  refine (fewP_any ox nx cx X _ HLX.out hcx hmx (HX.out.later B1)).mono ?_
  rw [← HL.out]
  rintro e w2 ⟨v, rfl, o2, b2⟩
  have B2' := below_later B1 b2
  have O2 := Lib.hid o2.seg
  obtain ⟨p2, c2, rfl⟩ := o2.shape
  clear o2 b2 B1
  go_wp2_with fail
  refine (of_any _ L _ O2.out (by omega)).mono ?_
  rintro e w3 ⟨vg, rfl, og, b3⟩
  have B3 := below_later B2' b3
  have O2 := Lib.hid (O2.out.later b3)
  have OG := Lib.hid og.seg
  obtain ⟨G, hG⟩ : ∃ G, G = ofP L := ⟨_, rfl⟩
  rw [← hG] at OG og
  have HG := Lib.hid hG
  obtain ⟨pg, cg, rfl⟩ := og.shape
  obtain ⟨n, hn⟩ : ∃ n, n = L.length := ⟨_, rfl⟩
  rw [← hn] at hL40 O2 ⊢
  have HN := Lib.hid hn
  clear hG og b3 B2' hn
  go_wp2
  go_loopw [23] (fun i wr => ∃ k : Nat, k ≤ n ∧ i = .int .i64 (k : Int) ∧ Gr w3 wr) (fun i _ => n - (intOf i).toNat)
  case atStart => exact ⟨0, by omega, rfl, Gr.refl _⟩
  case round =>
    obtain ⟨k, hk, rfl, hG⟩ := hrel
    by_cases hlt : k < n
    · have hkl : k < L.length := by have := HN.out; omega
      obtain ⟨b, f, rfl, hb, hcells⟩ := O2.out.has hkl
      obtain ⟨d1, d2⟩ := (hcells.below hG.below hb) k hkl
      have hbr : b < wr.heap.size := Nat.lt_of_lt_of_le hb hG.below.size
      obtain ⟨x, hx⟩ : ∃ x, x = L[k] := ⟨_, rfl⟩
      rw [← hx] at d1 d2
      have HCE := Lib.hid hcells
      clear hx hcells
      obtain ⟨x1, x2⟩ := x
      simp only at d1 d2
      go_wp2
      obtain ⟨wi, hwi⟩ : ∃ wi, wi = wr.alloc (.cells #[.int .u64 x1, .int .u64 x2] 30) := ⟨_, rfl⟩
      have bx : Blk wi wr.heap.size #[.int .u64 x1, .int .u64 x2] 30 := by rw [hwi]; exact Blk.new _ _ _
      have gi : Gr w3 wi := by rw [hwi]; exact hG.trans (Gr.alloc _ _)
      obtain ⟨r, hr⟩ : ∃ r, r = wr.heap.size := ⟨_, rfl⟩
      rw [← hwi]
      rw [← hr] at bx ⊢
      have BX' := Lib.hid bx
      clear hwi d1 d2 bx hr hbr
      go_loopw [29] (fun i wq => ∃ q : Nat, q ≤ n ∧ i = .int .i64 (q : Int) ∧ Gr wi wq) (fun i _ => n - (intOf i).toNat)
      case atStart => exact ⟨0, by omega, rfl, Gr.refl _⟩
      case round =>
        obtain ⟨q, hq, rfl, hGi⟩ := hrel
        by_cases hlt2 : q < n
        · have hql : q < L.length := by have := HN.out; omega
          obtain ⟨d1, d2⟩ := (HCE.out.below (gi.trans hGi).below hb) q hql
          obtain ⟨y, hy⟩ : ∃ y, y = L[q] := ⟨_, rfl⟩
          rw [← hy] at d1 d2
          clear hy
          obtain ⟨y1, y2⟩ := y
          simp only at d1 d2
          have bx := BX'.out.later hGi.below
          have c0 := bx.cell 0
          have c1 := bx.cell 1
          have lx := bx.lt
          simp only [List.getElem?_toArray, List.getElem?_cons_zero, List.getElem?_cons_succ] at c0 c1
          have hcs := cf2_cases (x1, x2) (y1, y2)
          obtain ⟨t, ht⟩ : ∃ t, cf2 (x1, x2) (y1, y2) = t := ⟨_, rfl⟩
          obtain ⟨u, hu⟩ : ∃ u, decide (lt2 (x1, x2) (y1, y2)) = u := ⟨_, rfl⟩
          obtain ⟨z, hz⟩ : ∃ z, decide (lt2 (y1, y2) (x1, x2)) = z := ⟨_, rfl⟩
          rw [ht, hu, hz] at hcs
          have HT := Lib.hid ht
          have HU := Lib.hid hu
          have HZ := Lib.hid hz
          have HCS := Lib.hid hcs
          have HBX := Lib.hid bx
          clear ht hu hz hcs bx
          go_wp2_with fail
          refine (compare_is x1 x2 y1 y2 t HT.out _).mono ?_
          rintro e w5 ⟨rfl, g5⟩
          have bb : B2 r wr.heap.size x1 x2 y1 y2 w5 := B2.later ⟨HBX.out.alloc _, Blk.new _ _ _⟩ g5.below
          have G5 : Gr wi w5 := hGi.trans ((Gr.alloc _ _).trans g5)
          obtain ⟨e0, e1, e2, e3⟩ := bb.cells
          have HBB := Lib.hid bb
          clear d1 d2 c0 c1 lx g5 bb HBX
          rcases HCS.out with ⟨rfl, rfl, rfl⟩ | ⟨rfl, rfl, rfl⟩ | ⟨rfl, rfl, rfl⟩
          all_goals
            go_wp2_with fail
            refine (ahead_is x1 x2 y1 y2 _ HU.out _).mono ?_
            rintro e w6 ⟨rfl, g6⟩
            have bb := HBB.out.later g6.below
            have G6 := G5.trans g6
            clear e0 e1 e2 e3 g6
            obtain ⟨e0, e1, e2, e3⟩ := bb.cells
            clear bb
            go_wp2_with fail
            refine (ahead_is y1 y2 x1 x2 _ HZ.out _).mono ?_
            rintro e w7 ⟨rfl, g7⟩
            have G7 := G6.trans g7
            clear e0 e1 e2 e3 g7
            go_wp2
            go_roundw
            case rel => exact ⟨q + 1, by omega, by go_num, G7⟩
            case measure => simp [intOf]; omega
        · go_wp2
          go_roundw
          case rel => exact ⟨k + 1, by omega, by go_num, gi.trans hGi⟩
          case measure => simp [intOf]; omega
    · have OG := Lib.hid (OG.out.later hG.below)
      have OL := Lib.hid (O2.out.later hG.below)
      have B4 := below_later B3 hG.below
      have hck : (okP L ∧ ckP L = 0 ∧ decide (okP L) = true) ∨ (¬ okP L ∧ ckP L = 130 ∧ decide (okP L) = false) := by
        by_cases h : okP L
        · exact .inl ⟨h, ckP_yes h, by simpa using h⟩
        · exact .inr ⟨h, ckP_no h, by simpa using h⟩
      have HCK := Lib.hid hck
      clear hck hG
      rcases HCK.out with ⟨h0, h1, h2⟩ | ⟨h0, h1, h2⟩
      all_goals
        have H1 := Lib.hid h1
        have H2 := Lib.hid h2
        clear h0 h1 h2
        go_wp2_with fail
        refine (check_any _ L _ OL.out).mono ?_
        rw [H1.out]
        rintro e w5 ⟨rfl, g5⟩
        have B5 := below_later B4 g5.below
        have OG5 := Lib.hid (OG.out.later g5.below)
        have OL5 := Lib.hid (OL.out.later g5.below)
        clear g5
        go_wp2_with fail
        refine (dof_any _ L _ OL5.out (by have := HN.out; omega)).mono ?_
        rw [← HG.out]
        rintro e w6 ⟨vr, rfl, or', b6⟩
        have B6 := below_later B5 b6
        have OG6 := Lib.hid (OG5.out.later b6)
        have OL6 := Lib.hid (OL5.out.later b6)
        have OR := Lib.hid or'.seg
        clear b6 or' OG5 OL5
        go_wp2_with fail
        refine (equalP_seg _ _ G G _ OG6.out OR.out).mono ?_
        rw [show decide (G = G) = true from by simp]
        rintro e w7 ⟨rfl, g7⟩
        have B7 := below_later B6 g7.below
        have OL7 := Lib.hid (OL6.out.later g7.below)
        clear g7 OG6 OL6 OR
        go_wp2_with fail
        refine (right_any _ L _ OL7.out).mono ?_
        rw [H2.out]
        rintro e w8 ⟨rfl, g8⟩
        have B8 := below_later B7 g8.below
        have OL8 := Lib.hid (OL7.out.later g8.below)
        clear g8 OL7
        go_wp2_with fail
        refine (fewP_any ox nx cx X _ HLX.out hcx hmx (HX.out.later B8)).mono ?_
        rw [← HL.out]
        rintro e w9 ⟨v9, rfl, o9, b9⟩
        have B9 := below_later B8 b9
        have OL9 := Lib.hid (OL8.out.later b9)
        have O9 := Lib.hid o9.seg
        clear b9 o9 OL8
        go_wp2_with fail
        refine (equalP_seg _ _ L L _ OL9.out O9.out).mono ?_
        rw [show decide (L = L) = true from by simp]
        rintro e w10 ⟨rfl, g10⟩
        have B10 := below_later B9 g10.below
        clear g10
        go_wp2
        go_ret
        exact ⟨rfl, B10⟩
end Go.Proofs.Yteipihoebnmagaa
