/- TrieOf: its walk. -/
import Derived.Test.YtbanemaiiifcaaaU22
import Derived.Test.YtbanemaiiifcaaaU23
import Derived.Test.YtbanemaiiifcaaaU24
import Derived.Test.YtbanemaiiifcaaaU25
import Derived.Test.YtbanemaiiifcaaaU27
import Derived.Test.YtbanemaiiifcaaaN19
namespace Go.Proofs.Kit
open Go.RowKit
section
variable {P : Program} {ops : Array Oper} {Q : Exit → Act → World → Prop} {S : World → Prop} {md : Region.Mode}
theorem takeOn (i : Nat) (oi : Oper) {v : Value} {fuel : Nat} {listed : Array Bool} {a : Act} {w : World} (hi : ops[i]? = some oi) (hs : Region.noSelect ops = true) (hf : Region.free md ops listed i = true)
    (hr : (Region.ready md ops listed).contains i = true) (hQ : ∀ c a w, Q (.panic c) (a.put oi.dst v) w → Q (.panic c) a w) (hw : Region.wanted oi (yielded ops a.tmps) = true) (hS : S w)
    (hy : ∀ w, S w → (execOp a.eval oi).run P w = .ok (.value v) w) (h : wpAnyH P md ops Q S fuel (listed.setIfInBounds i true) (a.put oi.dst v) w) : wpAnyH P md ops Q S (fuel + 1) listed a w :=
  wpAnyH_take hi hs hf hr hQ (.inl ⟨hw, hy⟩) hS h
theorem takeOff (i : Nat) (oi : Oper) {fuel : Nat} {listed : Array Bool} {a : Act} {w : World} (hi : ops[i]? = some oi) (hs : Region.noSelect ops = true) (hf : Region.free md ops listed i = true)
    (hr : (Region.ready md ops listed).contains i = true) (hQ : ∀ c a w, Q (.panic c) (a.put oi.dst undef) w → Q (.panic c) a w) (hw : Region.wanted oi (yielded ops a.tmps) = false) (hS : S w)
    (h : wpAnyH P md ops Q S fuel (listed.setIfInBounds i true) (a.put oi.dst undef) w) : wpAnyH P md ops Q S (fuel + 1) listed a w :=
  wpAnyH_take hi hs hf hr hQ (.inr ⟨hw, rfl⟩) hS h
end
end Go.Proofs.Kit
namespace Go.Proofs.Ytbanemaiiifcaaa
open Go.RowKit Go.Proofs.Kit
theorem zsame_true (v1 v2 v3 v4 : Value) (b : List Br) (l : List Int) (w : World) (h1 : SegR w v1 b) (h2 : Seg .u64 w v2 l) (h3 : SegR w v3 b) (h4 : Seg .u64 w v4 l) :
    Calls Try.prog 13 #[.agg #[v1, v2], .agg #[v3, v4]] w fun e w' => e = .returned (.bool true) ∧ Below w.heap.size w w' :=
  (zsame_any v1 v2 v3 v4 b b l l w h1 h2 h3 h4).mono fun _ _ ⟨h, g⟩ => ⟨by rw [h]; simp, g.below⟩
set_option maxRecDepth 100000 in
set_option maxHeartbeats 8000000 in
theorem trieOf_true (ox : Option Addr) (nx cx : Nat) (X : List Pr) (ob : Option Addr) (m cb : Nat) (bs : List Br) (ol : Option Addr) (q cl : Nat) (lv : List Int) (w : World)
    (hxn : X.length = nx) (hxc : nx ≤ cx) (hxm : cx ≤ 9223372036854775807) (hx : ArgP w ox cx X) (hm : bs.length = m) (hmc : m ≤ cb) (hcb : cb ≤ 9223372036854775807) (ab : ArgR w ob cb bs) (hq : lv.length = q) (hqc : q ≤ cl) (hcl : cl ≤ 9223372036854775807) (al : ArgI .u64 w ol cl lv) :
    Calls Try.prog 3 #[.slice ox nx cx, .agg #[.slice ob m cb, .slice ol q cl]] w fun e w' => e = .returned (.bool true) ∧ Below w.heap.size w w' := by
  have HFEW := Lib.hid (fun W (g : Below w.heap.size w W) => few7_any ox nx cx X W hxn hxc hxm (hx.later g))
  have HOWN := Lib.hid (fun W (g : Below w.heap.size w W) => own7_any ob m cb ol q cl bs lv W hm hmc hcb (ab.later g) hq hqc hcl (al.later g))
  obtain ⟨n7, hn7⟩ : ∃ n7, n7 = (X.take 40).length := ⟨_, rfl⟩
  have HN7 := Lib.hid hn7
  have hmix := mixed
  clear hn7 hxn hxc hxm hx hm hmc hcb ab hq hqc hcl al
  go_enter Try.func3, Try.ntmps3
  go_wp2_with fail
  refine (wakes7_true _).mono ?_
  rintro e w1 ⟨rfl, l1⟩
  have k4 : Blk w1 w.heap.size #[.slice ob m cb, .slice ol q cl] 26 := (Blk.new w #[.slice ob m cb, .slice ol q cl] 26).later l1
  have lo1 := below_later (Gr.alloc w (.cells #[.slice ob m cb, .slice ol q cl] 26)).below l1
  have K4 := Lib.hid k4
  have LO1 := Lib.hid lo1
  obtain ⟨c0, c1, lc⟩ := k4.two
  clear k4 lo1 l1
  go_upto_region 3 with fail
  go_cut [5, 6] (fun s7 s8 wx => ∃ (o7 : Option Addr) (c7 T : Nat) (o1 : Option Addr) (m1 y1 : Nat) (o2 : Option Addr) (q2 y2 : Nat), s7 = .slice o7 n7 c7 ∧ s8 = .pointer (some ⟨T, 0, none⟩) ∧ Hid (SegP wx (.slice o7 n7 c7) (X.take 40)) ∧ Hid (TPx w T o1 m1 y1 o2 q2 y2 (bs.take 40) (lv.take 60) wx) ∧ Hid (Below w1.heap.size w1 wx))
  case first =>
    have hk : ∀ W', Below w1.heap.size w1 W' → (W'.cell? ⟨w.heap.size, 0, none⟩ = some (.slice ob m cb) ∧ W'.cell? ⟨w.heap.size, 1, none⟩ = some (.slice ol q cl)) ∧ Below w1.heap.size w1 W' := fun W' h => ⟨⟨(K4.out.later h).cell 0, (K4.out.later h).cell 1⟩, h⟩
    have HK := Lib.hid hk
    have hws : Below w1.heap.size w1 w1 := Below.refl _ _
    clear hk
    go_region_held3 (fun W' => (W'.cell? ⟨w.heap.size, 0, none⟩ = some (.slice ob m cb) ∧ W'.cell? ⟨w.heap.size, 1, none⟩ = some (.slice ol q cl)) ∧ Below w1.heap.size w1 W')
      (first | exact HK.out _ hws | exact HK.out _ hws.drew | exact HK.out _ (hws.alloc hws.size _) | exact HK.out _ (hws.drew.alloc hws.size _) | exact HK.out _ (hws.alloc hws.size _).drew | exact HK.out _ ((hws.setCell (by first | (simp; done) | (have := hws.size; simp; omega)) _).setCell (by first | (simp; done) | (have := hws.size; simp; omega)) _))
      (first
        | (go_at_call 9; (with_reducible refine (HFEW.out _ (by first | exact below_later LO1.out hws | exact below_later LO1.out hws.drew | exact below_later LO1.out (hws.alloc hws.size _) | exact below_later LO1.out (hws.alloc hws.size _).drew)).mono ?_); rintro e w3 ⟨v3, rfl, hF, lF⟩; obtain ⟨o3, x3, rfl⟩ := hF.shapeN HN7.out; (first | (have hO := hO.later lF) | (have hO := (hO.alloc _).later lF) | (have hO := (hO.alloc _).drew.later lF) | (have hO := hO.drew.later lF) | skip); (first | (have kz := kz.later lF) | (have kz : Blk w3 _ #[.slice none 0 0, .slice none 0 0] 26 := (Blk.new _ _ _).later lF) | (have kz : Blk w3 _ #[.slice none 0 0, .slice none 0 0] 26 := (Blk.new _ _ _).drew.later lF) | skip); have hws := (by first | exact hws.trans (lF.mono hws.size) | exact hws.drew.trans (lF.mono hws.size) | exact (hws.alloc hws.size _).trans (lF.mono (hws.alloc hws.size _).size) | exact (hws.alloc hws.size _).drew.trans (lF.mono (hws.alloc hws.size _).size) : Below w1.heap.size w1 w3); have hsz := hws.size; (first | (obtain ⟨z0, z1⟩ := kz.z2; obtain ⟨v0, v1, vl⟩ := kz.two) | skip))
        | (go_at_call 10; (with_reducible refine (HOWN.out _ (by first | exact below_later LO1.out hws | exact below_later LO1.out hws.drew | exact below_later LO1.out (hws.alloc hws.size _) | exact below_later LO1.out (hws.alloc hws.size _).drew)).mono ?_); rintro e w3 ⟨o1, m1, y1, o2, q2, y2, rfl, hB, hL, lF⟩; have hO : TO 72 40 o1 m1 y1 o2 q2 y2 (bs.take 40) (lv.take 60) w3 := ⟨hB.mono (Nat.zero_le _), hL.mono (Nat.zero_le _)⟩; clear hB hL; (first | (have hF := hF.later lF) | (have hF := (hF.alloc _).later lF) | (have hF := (hF.alloc _).drew.later lF) | (have hF := hF.drew.later lF) | skip); (first | (have kz := kz.later lF) | (have kz : Blk w3 _ #[.slice none 0 0, .slice none 0 0] 26 := (Blk.new _ _ _).later lF) | (have kz : Blk w3 _ #[.slice none 0 0, .slice none 0 0] 26 := (Blk.new _ _ _).drew.later lF) | skip); have hws := (by first | exact hws.trans (lF.mono hws.size) | exact hws.drew.trans (lF.mono hws.size) | exact (hws.alloc hws.size _).trans (lF.mono (hws.alloc hws.size _).size) | exact (hws.alloc hws.size _).drew.trans (lF.mono (hws.alloc hws.size _).size) : Below w1.heap.size w1 w3); have hsz := hws.size; (first | (obtain ⟨z0, z1⟩ := kz.z2; obtain ⟨v0, v1, vl⟩ := kz.two) | skip)))
    all_goals
      refine then_at ?_
      intro W4 hW4
      (first
        | (have hn : Blk W4 w3.heap.size #[.slice o1 m1 y1, .slice o2 q2 y2] 26 := by rw [hW4]; exact Blk.new _ _ _
           have hF4 : SegP W4 (.slice o3 n7 x3) (X.take 40) := by rw [hW4]; exact hF.seg.alloc _
           have hO4 : TO 72 40 o1 m1 y1 o2 q2 y2 (bs.take 40) (lv.take 60) W4 := by rw [hW4]; exact hO.later (Gr.alloc _ _).below
           have hw4 : Below w1.heap.size w1 W4 := by rw [hW4]; exact hws.alloc hws.size _
           clear hW4
           go_wp2_with fail
           go_meet
           exact ⟨o3, x3, w3.heap.size, o1, m1, y1, o2, q2, y2, rfl, rfl, Lib.hid hF4, Lib.hid ⟨hn, hO4.b.seg, hO4.l.seg⟩, Lib.hid hw4⟩)
        | (have hF4 : SegP W4 (.slice o3 n7 x3) (X.take 40) := by rw [hW4]; exact (hF.st kz (by decide) _ _).seg
           have hO4 : TO 72 40 o1 m1 y1 o2 q2 y2 (bs.take 40) (lv.take 60) W4 := by rw [hW4]; exact hO.st kz (by decide) (by decide) _ _
           have hw4 : Below w1.heap.size w1 W4 := by rw [hW4]; exact (hws.setCell (by first | (simp; done) | (have := hws.size; simp; omega)) _).setCell (by first | (simp; done) | (have := hws.size; simp; omega)) _
           have hn := kz.set2 (.slice o1 m1 y1) (.slice o2 q2 y2)
           rw [← hW4] at hn
           clear hW4
           go_wp2_with fail
           go_meet
           exact ⟨o3, x3, _, o1, m1, y1, o2, q2, y2, rfl, rfl, Lib.hid hF4, Lib.hid ⟨hn, hO4.b.seg, hO4.l.seg⟩, Lib.hid hw4⟩))
  case rest =>
    obtain ⟨o7, c7, T, o1, m1, y1, o2, q2, y2, rfl, rfl, HX, HT, HW⟩ := hcut
    obtain ⟨Y, hY⟩ : ∃ Y, Y = X.take 40 := ⟨_, rfl⟩
    obtain ⟨BS, hBS⟩ : ∃ BS, BS = bs.take 40 := ⟨_, rfl⟩
    obtain ⟨LS, hLS⟩ : ∃ LS, LS = lv.take 60 := ⟨_, rfl⟩
    have hYl : Y.length ≤ 40 := by rw [hY, List.length_take]; omega
    have hBl : m1 ≤ 40 := by have := segR_len HT.out.b; rw [List.length_take] at this; omega
    have hLl : q2 ≤ 60 := by have := seg_len HT.out.l; rw [List.length_take] at this; omega
    rw [← hY] at HX HN7 HFEW
    rw [← hBS, ← hLS] at HT HOWN
    have LO2 := Lib.hid (below_later LO1.out HW.out)
    have hn7l : n7 ≤ 40 := by have := HN7.out; omega
    have K4 := Lib.hid (K4.out.later HW.out)
    clear hY hBS hLS HW LO1 c0 c1 lc
    have HYL := Lib.hid hYl
    clear hYl
    go_wp2_with fail
    refine (yof_any _ Y _ HX.out (by have := HYL.out; omega)).mono ?_
    rintro e w5 ⟨oa, ma, xa, ol9, qa, ya, rfl, hB, hL, l5⟩
    have HT := Lib.hid (HT.out.later l5)
    have HX := Lib.hid (HX.out.later l5)
    have LO2 := Lib.hid (below_later LO2.out l5)
    have K4 := Lib.hid (K4.out.later l5)
    have SB := Lib.hid hB.seg
    have SL := Lib.hid hL.seg
    clear hB hL l5
    obtain ⟨E, hE⟩ : ∃ E, E = ofE Y := ⟨_, rfl⟩
    rw [← hE]
    have HE := Lib.hid hE
    clear hE
    go_upto_region 5 with fail
    obtain ⟨t9, ht9⟩ : ∃ t9, t9 = w5.heap.size := ⟨_, rfl⟩
    obtain ⟨W6, hW6⟩ : ∃ W6, W6 = w5.alloc (.cells #[.slice oa ma xa, .slice ol9 qa ya] 26) := ⟨_, rfl⟩
    have TA : Hid (TPx w t9 oa ma xa ol9 qa ya (ofB Y) (ofL Y) W6) := Lib.hid (by rw [hW6, ht9]; exact ⟨Blk.new _ _ _, SB.out.alloc _, SL.out.alloc _⟩)
    have st : Below w5.heap.size w5 W6 := by rw [hW6]; exact (Gr.alloc _ _).below
    rw [← hW6, ← ht9]
    have HT := Lib.hid (HT.out.later st)
    have HX := Lib.hid (HX.out.later st)
    have K4 := Lib.hid (K4.out.later st)
    have LO2 := Lib.hid (below_later LO2.out st)
    clear hW6 ht9 st SB SL
    go_wp2_with fail
    refine (right_any _ Y _ HX.out).mono ?_
    rintro e w7 ⟨rfl, g7⟩
    have TA := Lib.hid (TA.out.later g7.below)
    have HT := Lib.hid (HT.out.later g7.below)
    have HX := Lib.hid (HX.out.later g7.below)
    have K4 := Lib.hid (K4.out.later g7.below)
    have LO2 := Lib.hid (below_later LO2.out g7.below)
    clear g7
    obtain ⟨C, hC⟩ : ∃ C, C = decide (okP Y) := ⟨_, rfl⟩
    rw [← hC]
    have HC := Lib.hid hC
    clear hC
    go_upto_if 24 with fail
    go_cut [] from 12 to 81 (fun wx => Hid (Below w7.heap.size w7 wx))
    case first =>
      by_cases hok : okP Y
      · obtain rfl : C = true := by rw [HC.out]; exact decide_eq_true hok
        have q1 : ofB Y = bof Y := if_pos hok
        have q2' : ofL Y = Y.map (·.2) := if_pos hok
        have q3 : E = 0 := by rw [HE.out]; exact if_pos hok
        rw [q1, q2'] at TA
        subst q3
        have HRUN := Lib.hid hok.1
        clear hok q1 q2'
        go_upto_region 6 with fail
        go_cut [33] (fun s wy => s = .bool false ∧ Hid (Below w7.heap.size w7 wy))
        case first =>
          obtain ⟨wc, hwc⟩ : ∃ wc, wc = w7 := ⟨_, rfl⟩
          rw [← hwc] at TA HX ⊢
          have HZO := Lib.hid (fun W (g : Below wc.heap.size wc W) => zof_any _ Y W (HX.out.later g) (by have := HYL.out; omega) HRUN.out)
          have HTB := Lib.hid (fun W (g : Below wc.heap.size wc W) => (TA.out.later g).b)
          have HTL := Lib.hid (fun W (g : Below wc.heap.size wc W) => (TA.out.later g).l)
          have hk : ∀ W', Below wc.heap.size wc W' → (W'.cell? ⟨t9, 0, none⟩ = some (.slice oa ma xa) ∧ W'.cell? ⟨t9, 1, none⟩ = some (.slice ol9 qa ya)) ∧ Below wc.heap.size wc W' :=
            fun W' h => ⟨⟨(TA.out.later h).k.cell 0, (TA.out.later h).k.cell 1⟩, h⟩
          have HK := Lib.hid hk
          have hws : Below wc.heap.size wc wc := Below.refl _ _
          obtain ⟨⟨e0, e1⟩, _⟩ := hk wc hws
          have lt9 := TA.out.k.lt
          clear hk
          have HWC := Lib.hid hwc
          clear hwc
          go_region_held3 (fun W' => (W'.cell? ⟨t9, 0, none⟩ = some (.slice oa ma xa) ∧ W'.cell? ⟨t9, 1, none⟩ = some (.slice ol9 qa ya)) ∧ Below wc.heap.size wc W')
            (first | exact HK.out _ hws | exact HK.out _ hws.drew)
            (first
              | (go_at_call 14; (with_reducible refine (HZO.out _ (by first | exact hws | exact hws.drew)).mono ?_); rintro e w3 ⟨vb, vl, rfl, hB, hL, lF⟩; have hws := (by first | exact hws.trans (lF.mono hws.size) | exact hws.drew.trans (lF.mono hws.size) : Below wc.heap.size wc w3); have hsz := hws.size)
              | (go_at_call 13; (with_reducible refine (zsame_true _ _ _ _ (bof Y) (Y.map (·.2)) _ (HTB.out _ (by first | exact hws | exact hws.drew)) (HTL.out _ (by first | exact hws | exact hws.drew)) (by first | exact hB.seg | exact hB.drew.seg) (by first | exact hL.seg | exact hL.drew.seg)).mono ?_); rintro e w3 ⟨rfl, lF⟩; have hws := (by first | exact hws.trans (lF.mono hws.size) | exact hws.drew.trans (lF.mono hws.size) : Below wc.heap.size wc w3); have hsz := hws.size))
          all_goals
            go_wp2_with fail
            go_meet
            exact ⟨rfl, Lib.hid (by rw [← HWC.out]; first | exact hws | exact hws.drew)⟩
        case rest =>
          obtain ⟨rfl, HB6⟩ := hcut
          go_wp2_with fail
          go_meet
          exact HB6
      · obtain rfl : C = false := by rw [HC.out]; exact decide_eq_false hok
        have q1 : ofB Y = [] := if_neg hok
        have q2' : ofL Y = [] := if_neg hok
        have q3 : E = 130 := by rw [HE.out]; exact if_neg hok
        rw [q1, q2'] at TA
        subst q3
        have m0 : ma = 0 := (segR_len TA.out.b).symm
        have m2 : qa = 0 := (seg_len TA.out.l).symm
        subst m0 m2
        obtain ⟨e0, e1, lt9⟩ := TA.out.k.two
        have HR0 : Hid (Below w7.heap.size w7 w7) := Lib.hid (Below.refl _ _)
        clear hok q1 q2'
        go_wp2_with fail
        go_meet
        exact HR0
    case rest =>
      have HB7 := hcut
      obtain ⟨wx, hwx, hb7⟩ := named (P := fun W => Below w7.heap.size w7 W) HB7.out
      subst hwx
      clear hb7 hcut
      have HT := Lib.hid (HT.out.later HB7.out)
      have HX := Lib.hid (HX.out.later HB7.out)
      have K4 := Lib.hid (K4.out.later HB7.out)
      have LO2 := Lib.hid (below_later LO2.out HB7.out)
      clear HB7 TA HE HC
      have e1 : BS.length = m1 := segR_len HT.out.b
      have e2 : LS.length = q2 := seg_len HT.out.l
      have HB1 := Lib.hid e1
      have HL1 := Lib.hid e2
      obtain ⟨RL, hRL⟩ : ∃ RL, RL = runOf BS LS := ⟨_, rfl⟩
      have HRL := Lib.hid hRL.symm
      have HZR := Lib.hid (fun W (h : TPx w T o1 m1 y1 o2 q2 y2 BS LS W) => zright_any (.slice o1 m1 y1) (.slice o2 q2 y2) BS LS W h.b h.l (by omega) (by omega))
      have HYC := Lib.hid (fun W (h : TPx w T o1 m1 y1 o2 q2 y2 BS LS W) => ycheck_any o1 m1 y1 o2 q2 y2 BS LS W h.b h.l e1 e2 (by omega) (by omega))
      have HZU := Lib.hid (fun W (h : TPx w T o1 m1 y1 o2 q2 y2 BS LS W) (hc : Chd LS.length BS) => zrun_any (.slice o1 m1 y1) (.slice o2 q2 y2) BS LS W h.b h.l (by omega) (by omega) hc)
      clear e1 e2
      obtain ⟨c0, c1, lc⟩ := HT.out.k.two
      by_cases hok : ok7 BS LS
      · rw [decide_eq_true hok] at HZR
        rw [if_pos hok] at HYC
        have hrp : prs BS LS = RL := by rw [hRL]; exact (if_pos hok).symm
        have HCH := Lib.hid hok.2.1
        have HRP := Lib.hid hrp
        clear hok hRL hrp
        go_wp2_with fail
        refine (HZR.out _ HT.out).mono ?_
        rintro e w8 ⟨rfl, g8⟩
        have HT := Lib.hid (HT.out.later g8.below)
        have HX := Lib.hid (HX.out.later g8.below)
        have K4 := Lib.hid (K4.out.later g8.below)
        have LO2 := Lib.hid (below_later LO2.out g8.below)
        obtain ⟨c0, c1, lc⟩ := HT.out.k.two
        clear g8
        go_wp2_with fail
        refine (HZU.out _ HT.out HCH.out).mono ?_
        rintro e w8 ⟨vw, rfl, ho, l8⟩
        have HT := Lib.hid (HT.out.later l8)
        have HX := Lib.hid (HX.out.later l8)
        have K4 := Lib.hid (K4.out.later l8)
        have LO2 := Lib.hid (below_later LO2.out l8)
        rw [HRP.out] at ho
        have VW := Lib.hid ho.seg
        obtain ⟨c0, c1, lc⟩ := HT.out.k.two
        clear l8 ho
        go_wp2_with fail
        refine (HYC.out _ HT.out).mono ?_
        rintro e w9 ⟨rfl, l9⟩
        have TT := Lib.hid (HT.out.later l9)
        have XX := Lib.hid (HX.out.later l9)
        have KK := Lib.hid (K4.out.later l9)
        have LL := Lib.hid (below_later LO2.out l9)
        have VW := Lib.hid (VW.out.later l9)
        clear l9 c0 c1 lc
        go_upto_region 15 with fail
        obtain ⟨wc, hwc⟩ : ∃ wc, wc = w9 := ⟨_, rfl⟩
        rw [← hwc] at TT KK XX LL VW ⊢
        have HYR := Lib.hid (fun W (g : Below wc.heap.size wc W) => yrun_any o1 m1 y1 o2 q2 y2 BS LS W (TT.out.later g).b (TT.out.later g).l HB1.out HL1.out (by omega) (by omega))
        rw [HRL.out] at HYR
        have HVW := Lib.hid (fun W (g : Below wc.heap.size wc W) => VW.out.later g)
        have HXC := Lib.hid (fun W (g : Below wc.heap.size wc W) => XX.out.later g)
        have HTB := Lib.hid (fun W (g : Below wc.heap.size wc W) => (TT.out.later g).b)
        have HTL := Lib.hid (fun W (g : Below wc.heap.size wc W) => (TT.out.later g).l)
        have LOC := Lib.hid LL.out
        have hk : ∀ W', Below wc.heap.size wc W' → (W'.cell? ⟨T, 0, none⟩ = some (.slice o1 m1 y1) ∧ W'.cell? ⟨T, 1, none⟩ = some (.slice o2 q2 y2) ∧ W'.cell? ⟨w.heap.size, 0, none⟩ = some (.slice ob m cb) ∧ W'.cell? ⟨w.heap.size, 1, none⟩ = some (.slice ol q cl)) ∧ Below wc.heap.size wc W' :=
          fun W' h => ⟨⟨(TT.out.later h).k.cell 0, (TT.out.later h).k.cell 1, (KK.out.later h).cell 0, (KK.out.later h).cell 1⟩, h⟩
        have HK := Lib.hid hk
        have hws : Below wc.heap.size wc wc := Below.refl _ _
        obtain ⟨⟨e0, e1, e2, e3⟩, _⟩ := hk wc hws
        have ltT := TT.out.k.lt
        have lt0 := KK.out.lt
        clear hk hwc
        refine wp_region_held_drew (S := (fun W' => (W'.cell? ⟨T, 0, none⟩ = some (.slice o1 m1 y1) ∧ W'.cell? ⟨T, 1, none⟩ = some (.slice o2 q2 y2) ∧ W'.cell? ⟨w.heap.size, 0, none⟩ = some (.slice ob m cb) ∧ W'.cell? ⟨w.heap.size, 1, none⟩ = some (.slice ol q cl)) ∧ Below wc.heap.size wc W')) (by kernel_rfl) ?_ (fun hHeld => ?_)
        · exact HK.out _ hws.drew
        refine takeOn 0 { dst := some 53, op := Op.move (Operand.tmp 11), type := 30, pos := "law.go:52", after := #[], guard := none } (v := ?v0) rfl (by kernel_rfl) (by kernel_rfl) (by kernel_rfl) (fun _ _ _ h => h) (by rfl) (by assumption) ?hy0 ?_
        case hy0 =>
          intro w hSw
          try dsimp only at hSw
          go_simp
          try (with_reducible rfl)
        try simp only [Act.put, List.setIfInBounds_toArray, List.set_cons_zero, List.set_cons_succ]
        refine takeOn 1 { dst := some 54, op := Op.binOp BinOp.eql 30 (Operand.tmp 53) (Operand.const (Value.int IntKind.i64 0)) 30, type := 4, pos := "law.go:52", after := #[{ on := 0, ground := Ground.data }], guard := none } (v := ?v1) rfl (by kernel_rfl) (by kernel_rfl) (by kernel_rfl) (fun _ _ _ h => h) (by rfl) (by assumption) ?hy1 ?_
        case hy1 =>
          intro w hSw
          try dsimp only at hSw
          go_simp
          try (with_reducible rfl)
        try simp only [Act.put, List.setIfInBounds_toArray, List.set_cons_zero, List.set_cons_succ]
        refine takeOn 2 { dst := some 55, op := Op.move (Operand.tmp 9), type := 4, pos := "law.go:52", after := #[], guard := none } (v := ?v2) rfl (by kernel_rfl) (by kernel_rfl) (by kernel_rfl) (fun _ _ _ h => h) (by rfl) (by assumption) ?hy2 ?_
        case hy2 =>
          intro w hSw
          try dsimp only at hSw
          go_simp
          try (with_reducible rfl)
        try simp only [Act.put, List.setIfInBounds_toArray, List.set_cons_zero, List.set_cons_succ]
        refine takeOn 3 { dst := some 56, op := Op.binOp BinOp.eql 4 (Operand.tmp 54) (Operand.tmp 55) 4, type := 4, pos := "law.go:52", after := #[{ on := 1, ground := Ground.data }, { on := 2, ground := Ground.data }], guard := none } (v := ?v3) rfl (by kernel_rfl) (by kernel_rfl) (by kernel_rfl) (fun _ _ _ h => h) (by rfl) (by assumption) ?hy3 ?_
        case hy3 =>
          intro w hSw
          try dsimp only at hSw
          go_simp
          try (with_reducible rfl)
        try simp only [Act.put, List.setIfInBounds_toArray, List.set_cons_zero, List.set_cons_succ]
        refine takeOn 4 { dst := some 57, op := Op.move (Operand.tmp 56), type := 4, pos := "law.go:52", after := #[{ on := 3, ground := Ground.data }], guard := none } (v := ?v4) rfl (by kernel_rfl) (by kernel_rfl) (by kernel_rfl) (fun _ _ _ h => h) (by rfl) (by assumption) ?hy4 ?_
        case hy4 =>
          intro w hSw
          try dsimp only at hSw
          go_simp
          try (with_reducible rfl)
        try simp only [Act.put, List.setIfInBounds_toArray, List.set_cons_zero, List.set_cons_succ]
        refine takeOn 5 { dst := some 58, op := Op.move (Operand.tmp 9), type := 4, pos := "law.go:52", after := #[{ on := 4, ground := Ground.guard }], guard := some (4, true) } (v := ?v5) rfl (by kernel_rfl) (by kernel_rfl) (by kernel_rfl) (fun _ _ _ h => h) (by rfl) (by assumption) ?hy5 ?_
        case hy5 =>
          intro w hSw
          try dsimp only at hSw
          go_simp
          try (with_reducible rfl)
        try simp only [Act.put, List.setIfInBounds_toArray, List.set_cons_zero, List.set_cons_succ]
        refine takeOn 6 { dst := some 59, op := Op.move (Operand.tmp 58), type := 4, pos := "law.go:52", after := #[{ on := 5, ground := Ground.data }, { on := 4, ground := Ground.chain }, { on := 4, ground := Ground.guard }], guard := some (4, true) } (v := ?v6) rfl (by kernel_rfl) (by kernel_rfl) (by kernel_rfl) (fun _ _ _ h => h) (by rfl) (by assumption) ?hy6 ?_
        case hy6 =>
          intro w hSw
          try dsimp only at hSw
          go_simp
          try (with_reducible rfl)
        try simp only [Act.put, List.setIfInBounds_toArray, List.set_cons_zero, List.set_cons_succ]
        refine takeOff 7 { dst := some 60, op := Op.move (Operand.tmp 11), type := 30, pos := "law.go:52", after := #[{ on := 6, ground := Ground.guard }], guard := some (6, false) } rfl (by kernel_rfl) (by kernel_rfl) (by kernel_rfl) (fun _ _ _ h => h) (by rfl) (by assumption) ?_
        try simp only [Act.put, List.setIfInBounds_toArray, List.set_cons_zero, List.set_cons_succ]
        refine takeOff 8 { dst := some 61, op := Op.binOp BinOp.eql 30 (Operand.tmp 60) (Operand.const (Value.int IntKind.i64 170)) 30, type := 4, pos := "law.go:52", after := #[{ on := 7, ground := Ground.data }, { on := 6, ground := Ground.guard }], guard := some (6, false) } rfl (by kernel_rfl) (by kernel_rfl) (by kernel_rfl) (fun _ _ _ h => h) (by rfl) (by assumption) ?_
        try simp only [Act.put, List.setIfInBounds_toArray, List.set_cons_zero, List.set_cons_succ]
        refine takeOn 9 { dst := some 62, op := Op.pick (Operand.tmp 59) (Operand.const (Value.bool true)) (Operand.tmp 61), type := 4, pos := "law.go:52", after := #[{ on := 6, ground := Ground.data }, { on := 8, ground := Ground.data }, { on := 4, ground := Ground.guard }], guard := some (4, true) } (v := ?v9) rfl (by kernel_rfl) (by kernel_rfl) (by kernel_rfl) (fun _ _ _ h => h) (by rfl) (by assumption) ?hy9 ?_
        case hy9 =>
          intro w hSw
          try dsimp only at hSw
          go_simp
          try (with_reducible rfl)
        try simp only [Act.put, List.setIfInBounds_toArray, List.set_cons_zero, List.set_cons_succ]
        refine takeOn 10 { dst := some 63, op := Op.pick (Operand.tmp 57) (Operand.tmp 62) (Operand.const (Value.bool false)), type := 4, pos := "law.go:52", after := #[{ on := 4, ground := Ground.data }, { on := 9, ground := Ground.data }], guard := none } (v := ?v10) rfl (by kernel_rfl) (by kernel_rfl) (by kernel_rfl) (fun _ _ _ h => h) (by rfl) (by assumption) ?hy10 ?_
        case hy10 =>
          intro w hSw
          try dsimp only at hSw
          go_simp
          try (with_reducible rfl)
        try simp only [Act.put, List.setIfInBounds_toArray, List.set_cons_zero, List.set_cons_succ]
        refine takeOn 11 { dst := some 64, op := Op.move (Operand.tmp 63), type := 4, pos := "law.go:52", after := #[{ on := 10, ground := Ground.data }, { on := 6, ground := Ground.chain }], guard := none } (v := ?v11) rfl (by kernel_rfl) (by kernel_rfl) (by kernel_rfl) (fun _ _ _ h => h) (by rfl) (by assumption) ?hy11 ?_
        case hy11 =>
          intro w hSw
          try dsimp only at hSw
          go_simp
          try (with_reducible rfl)
        try simp only [Act.put, List.setIfInBounds_toArray, List.set_cons_zero, List.set_cons_succ]
        refine takeOn 12 { dst := some 65, op := Op.load 26 (Operand.tmp 6), type := 26, pos := "law.go:52", after := #[{ on := 11, ground := Ground.guard }], guard := some (11, true) } (v := ?v12) rfl (by kernel_rfl) (by kernel_rfl) (by kernel_rfl) (fun _ _ _ h => h) (by rfl) (by assumption) ?hy12 ?_
        case hy12 =>
          intro w hSw
          try dsimp only at hSw
          go_simp
          try (with_reducible rfl)
        try simp only [Act.put, List.setIfInBounds_toArray, List.set_cons_zero, List.set_cons_succ]
        refine takeOn 14 { dst := some 67, op := Op.move (Operand.tmp 10), type := 22, pos := "law.go:52", after := #[{ on := 11, ground := Ground.guard }], guard := some (11, true) } (v := ?v14) rfl (by kernel_rfl) (by kernel_rfl) (by kernel_rfl) (fun _ _ _ h => h) (by rfl) (by assumption) ?hy14 ?_
        case hy14 =>
          intro w hSw
          try dsimp only at hSw
          go_simp
          try (with_reducible rfl)
        try simp only [Act.put, List.setIfInBounds_toArray, List.set_cons_zero, List.set_cons_succ]
        refine wpAnyH_ready (rs := [13]) (by kernel_rfl) (by simp) ?_
        refine AllReadyH.cons (o := { dst := some 66, op := Op.call { callee := Callee.value (Operand.func 19), args := #[Operand.tmp 65], argTypes := #[26] }, type := 22, pos := "law.go:52", after := #[{ on := 12, ground := Ground.data }, { on := 11, ground := Ground.chain }, { on := 11, ground := Ground.guard }], guard := some (11, true) }) rfl (fun K hK => ?_) AllReadyH.nil
        go_simp
        (with_reducible refine (HYR.out _ (by first | exact hws | exact hws.drew)).mono ?_); rintro e w3 ⟨vR, rfl, hR, lF⟩; have hws := (by first | exact hws.trans (lF.mono hws.size) | exact hws.drew.trans (lF.mono hws.size) : Below wc.heap.size wc w3); have hsz := hws.size
        try (go_wp2_with fail)
        refine hK.out _ _ ?_ (fun hHeld => ?_)
        · exact HK.out _ hws
        clear hK K
        try simp only [Act.put, List.setIfInBounds_toArray, List.set_cons_zero, List.set_cons_succ]
        refine wpAnyH_ready (rs := [15]) (by kernel_rfl) (by simp) ?_
        refine AllReadyH.cons (o := { dst := some 68, op := Op.call { callee := Callee.value (Operand.func 18), args := #[Operand.tmp 66, Operand.tmp 67], argTypes := #[22, 22] }, type := 4, pos := "law.go:52", after := #[{ on := 13, ground := Ground.data }, { on := 14, ground := Ground.data }, { on := 13, ground := Ground.chain }, { on := 11, ground := Ground.guard }], guard := some (11, true) }) rfl (fun K hK => ?_) AllReadyH.nil
        go_simp
        (with_reducible refine (equalP_true _ _ RL _ hR.seg (HVW.out _ (by first | exact hws | exact hws.drew))).mono ?_); rintro e w3 ⟨rfl, lF⟩; have hws := (by first | exact hws.trans (lF.mono hws.size) | exact hws.drew.trans (lF.mono hws.size) : Below wc.heap.size wc w3); have hsz := hws.size
        try (go_wp2_with fail)
        refine hK.out _ _ ?_ (fun hHeld => ?_)
        · exact HK.out _ hws
        clear hK K
        try simp only [Act.put, List.setIfInBounds_toArray, List.set_cons_zero, List.set_cons_succ]
        refine takeOn 16 { dst := some 69, op := Op.pick (Operand.tmp 64) (Operand.tmp 68) (Operand.const (Value.bool false)), type := 4, pos := "law.go:52", after := #[{ on := 11, ground := Ground.data }, { on := 15, ground := Ground.data }], guard := none } (v := ?v16) rfl (by kernel_rfl) (by kernel_rfl) (by kernel_rfl) (fun _ _ _ h => h) (by rfl) (by assumption) ?hy16 ?_
        case hy16 =>
          intro w hSw
          try dsimp only at hSw
          go_simp
          try (with_reducible rfl)
        try simp only [Act.put, List.setIfInBounds_toArray, List.set_cons_zero, List.set_cons_succ]
        refine takeOn 17 { dst := some 70, op := Op.move (Operand.tmp 69), type := 4, pos := "law.go:52", after := #[{ on := 16, ground := Ground.data }, { on := 15, ground := Ground.chain }], guard := none } (v := ?v17) rfl (by kernel_rfl) (by kernel_rfl) (by kernel_rfl) (fun _ _ _ h => h) (by rfl) (by assumption) ?hy17 ?_
        case hy17 =>
          intro w hSw
          try dsimp only at hSw
          go_simp
          try (with_reducible rfl)
        try simp only [Act.put, List.setIfInBounds_toArray, List.set_cons_zero, List.set_cons_succ]
        refine takeOn 18 { dst := some 71, op := Op.load 26 (Operand.tmp 6), type := 26, pos := "law.go:52", after := #[{ on := 17, ground := Ground.guard }], guard := some (17, true) } (v := ?v18) rfl (by kernel_rfl) (by kernel_rfl) (by kernel_rfl) (fun _ _ _ h => h) (by rfl) (by assumption) ?hy18 ?_
        case hy18 =>
          intro w hSw
          try dsimp only at hSw
          go_simp
          try (with_reducible rfl)
        try simp only [Act.put, List.setIfInBounds_toArray, List.set_cons_zero, List.set_cons_succ]
        refine takeOn 19 { dst := some 72, op := Op.load 26 (Operand.tmp 3), type := 26, pos := "law.go:52", after := #[{ on := 17, ground := Ground.guard }], guard := some (17, true) } (v := ?v19) rfl (by kernel_rfl) (by kernel_rfl) (by kernel_rfl) (fun _ _ _ h => h) (by rfl) (by assumption) ?hy19 ?_
        case hy19 =>
          intro w hSw
          try dsimp only at hSw
          go_simp
          try (with_reducible rfl)
        try simp only [Act.put, List.setIfInBounds_toArray, List.set_cons_zero, List.set_cons_succ]
        refine wpAnyH_ready (rs := [20]) (by kernel_rfl) (by simp) ?_
        refine AllReadyH.cons (o := { dst := some 73, op := Op.call { callee := Callee.value (Operand.func 10), args := #[Operand.tmp 72], argTypes := #[26] }, type := 26, pos := "law.go:52", after := #[{ on := 19, ground := Ground.data }, { on := 17, ground := Ground.chain }, { on := 17, ground := Ground.guard }], guard := some (17, true) }) rfl (fun K hK => ?_) AllReadyH.nil
        go_simp
        (with_reducible refine (HOWN.out _ (by first | exact below_later LOC.out hws | exact below_later LOC.out hws.drew)).mono ?_); rintro e w3 ⟨oo, mo, yo, op, qp, yp, rfl, hB, hL, lF⟩; have hws := (by first | exact hws.trans (lF.mono hws.size) | exact hws.drew.trans (lF.mono hws.size) : Below wc.heap.size wc w3); have hsz := hws.size
        try (go_wp2_with fail)
        refine hK.out _ _ ?_ (fun hHeld => ?_)
        · exact HK.out _ hws
        clear hK K
        try simp only [Act.put, List.setIfInBounds_toArray, List.set_cons_zero, List.set_cons_succ]
        refine wpAnyH_ready (rs := [21]) (by kernel_rfl) (by simp) ?_
        refine AllReadyH.cons (o := { dst := some 74, op := Op.call { callee := Callee.value (Operand.func 13), args := #[Operand.tmp 71, Operand.tmp 73], argTypes := #[26, 26] }, type := 4, pos := "law.go:52", after := #[{ on := 18, ground := Ground.data }, { on := 20, ground := Ground.data }, { on := 20, ground := Ground.chain }, { on := 17, ground := Ground.guard }], guard := some (17, true) }) rfl (fun K hK => ?_) AllReadyH.nil
        go_simp
        (with_reducible refine (zsame_true _ _ _ _ BS LS _ (HTB.out _ (by first | exact hws | exact hws.drew)) (HTL.out _ (by first | exact hws | exact hws.drew)) hB.seg hL.seg).mono ?_); rintro e w3 ⟨rfl, lF⟩; have hws := (by first | exact hws.trans (lF.mono hws.size) | exact hws.drew.trans (lF.mono hws.size) : Below wc.heap.size wc w3); have hsz := hws.size
        try (go_wp2_with fail)
        refine hK.out _ _ ?_ (fun hHeld => ?_)
        · exact HK.out _ hws
        clear hK K
        try simp only [Act.put, List.setIfInBounds_toArray, List.set_cons_zero, List.set_cons_succ]
        refine takeOn 22 { dst := some 75, op := Op.pick (Operand.tmp 70) (Operand.tmp 74) (Operand.const (Value.bool false)), type := 4, pos := "law.go:52", after := #[{ on := 17, ground := Ground.data }, { on := 21, ground := Ground.data }], guard := none } (v := ?v22) rfl (by kernel_rfl) (by kernel_rfl) (by kernel_rfl) (fun _ _ _ h => h) (by rfl) (by assumption) ?hy22 ?_
        case hy22 =>
          intro w hSw
          try dsimp only at hSw
          go_simp
          try (with_reducible rfl)
        try simp only [Act.put, List.setIfInBounds_toArray, List.set_cons_zero, List.set_cons_succ]
        refine takeOn 23 { dst := some 76, op := Op.move (Operand.tmp 75), type := 4, pos := "law.go:52", after := #[{ on := 22, ground := Ground.data }, { on := 21, ground := Ground.chain }], guard := none } (v := ?v23) rfl (by kernel_rfl) (by kernel_rfl) (by kernel_rfl) (fun _ _ _ h => h) (by rfl) (by assumption) ?hy23 ?_
        case hy23 =>
          intro w hSw
          try dsimp only at hSw
          go_simp
          try (with_reducible rfl)
        try simp only [Act.put, List.setIfInBounds_toArray, List.set_cons_zero, List.set_cons_succ]
        refine takeOn 24 { dst := some 77, op := Op.move (Operand.tmp 5), type := 22, pos := "law.go:52", after := #[{ on := 23, ground := Ground.guard }], guard := some (23, true) } (v := ?v24) rfl (by kernel_rfl) (by kernel_rfl) (by kernel_rfl) (fun _ _ _ h => h) (by rfl) (by assumption) ?hy24 ?_
        case hy24 =>
          intro w hSw
          try dsimp only at hSw
          go_simp
          try (with_reducible rfl)
        try simp only [Act.put, List.setIfInBounds_toArray, List.set_cons_zero, List.set_cons_succ]
        refine takeOn 25 { dst := some 78, op := Op.move (Operand.tmp 0), type := 22, pos := "law.go:52", after := #[{ on := 23, ground := Ground.guard }], guard := some (23, true) } (v := ?v25) rfl (by kernel_rfl) (by kernel_rfl) (by kernel_rfl) (fun _ _ _ h => h) (by rfl) (by assumption) ?hy25 ?_
        case hy25 =>
          intro w hSw
          try dsimp only at hSw
          go_simp
          try (with_reducible rfl)
        try simp only [Act.put, List.setIfInBounds_toArray, List.set_cons_zero, List.set_cons_succ]
        refine wpAnyH_ready (rs := [26]) (by kernel_rfl) (by simp) ?_
        refine AllReadyH.cons (o := { dst := some 79, op := Op.call { callee := Callee.value (Operand.func 9), args := #[Operand.tmp 78], argTypes := #[22] }, type := 22, pos := "law.go:52", after := #[{ on := 25, ground := Ground.data }, { on := 23, ground := Ground.chain }, { on := 23, ground := Ground.guard }], guard := some (23, true) }) rfl (fun K hK => ?_) AllReadyH.nil
        go_simp
        (with_reducible refine (HFEW.out _ (by first | exact below_later LOC.out hws | exact below_later LOC.out hws.drew)).mono ?_); rintro e w3 ⟨vF, rfl, hF, lF⟩; have hws := (by first | exact hws.trans (lF.mono hws.size) | exact hws.drew.trans (lF.mono hws.size) : Below wc.heap.size wc w3); have hsz := hws.size
        try (go_wp2_with fail)
        refine hK.out _ _ ?_ (fun hHeld => ?_)
        · exact HK.out _ hws
        clear hK K
        try simp only [Act.put, List.setIfInBounds_toArray, List.set_cons_zero, List.set_cons_succ]
        refine wpAnyH_ready (rs := [27]) (by kernel_rfl) (by simp) ?_
        refine AllReadyH.cons (o := { dst := some 80, op := Op.call { callee := Callee.value (Operand.func 18), args := #[Operand.tmp 77, Operand.tmp 79], argTypes := #[22, 22] }, type := 4, pos := "law.go:52", after := #[{ on := 24, ground := Ground.data }, { on := 26, ground := Ground.data }, { on := 26, ground := Ground.chain }, { on := 23, ground := Ground.guard }], guard := some (23, true) }) rfl (fun K hK => ?_) AllReadyH.nil
        go_simp
        (with_reducible refine (equalP_true _ _ Y _ (HXC.out _ (by first | exact hws | exact hws.drew)) hF.seg).mono ?_); rintro e w3 ⟨rfl, lF⟩; have hws := (by first | exact hws.trans (lF.mono hws.size) | exact hws.drew.trans (lF.mono hws.size) : Below wc.heap.size wc w3); have hsz := hws.size
        try (go_wp2_with fail)
        refine hK.out _ _ ?_ (fun hHeld => ?_)
        · exact HK.out _ hws
        clear hK K
        try simp only [Act.put, List.setIfInBounds_toArray, List.set_cons_zero, List.set_cons_succ]
        refine takeOn 28 { dst := some 81, op := Op.pick (Operand.tmp 76) (Operand.tmp 80) (Operand.const (Value.bool false)), type := 4, pos := "law.go:52", after := #[{ on := 23, ground := Ground.data }, { on := 27, ground := Ground.data }], guard := none } (v := ?v28) rfl (by kernel_rfl) (by kernel_rfl) (by kernel_rfl) (fun _ _ _ h => h) (by rfl) (by assumption) ?hy28 ?_
        case hy28 =>
          intro w hSw
          try dsimp only at hSw
          go_simp
          try (with_reducible rfl)
        try simp only [Act.put, List.setIfInBounds_toArray, List.set_cons_zero, List.set_cons_succ]
        refine takeOn 29 { dst := some 4, op := Op.assign (Operand.tmp 81), type := 4, pos := "law.go:52", after := #[{ on := 28, ground := Ground.data }, { on := 27, ground := Ground.chain }, { on := 0, ground := Ground.phase }, { on := 1, ground := Ground.phase }, { on := 2, ground := Ground.phase }, { on := 3, ground := Ground.phase }, { on := 4, ground := Ground.phase }, { on := 5, ground := Ground.phase }, { on := 6, ground := Ground.phase }, { on := 7, ground := Ground.phase }, { on := 8, ground := Ground.phase }, { on := 9, ground := Ground.phase }, { on := 10, ground := Ground.phase }, { on := 11, ground := Ground.phase }, { on := 12, ground := Ground.phase }, { on := 13, ground := Ground.phase }, { on := 14, ground := Ground.phase }, { on := 15, ground := Ground.phase }, { on := 16, ground := Ground.phase }, { on := 17, ground := Ground.phase }, { on := 18, ground := Ground.phase }, { on := 19, ground := Ground.phase }, { on := 20, ground := Ground.phase }, { on := 21, ground := Ground.phase }, { on := 22, ground := Ground.phase }, { on := 23, ground := Ground.phase }, { on := 24, ground := Ground.phase }, { on := 25, ground := Ground.phase }, { on := 26, ground := Ground.phase }, { on := 27, ground := Ground.phase }, { on := 28, ground := Ground.phase }], guard := none } (v := ?v29) rfl (by kernel_rfl) (by kernel_rfl) (by kernel_rfl) (fun _ _ _ h => h) (by rfl) (by assumption) ?hy29 ?_
        case hy29 =>
          intro w hSw
          try dsimp only at hSw
          go_simp
          try (with_reducible rfl)
        try simp only [Act.put, List.setIfInBounds_toArray, List.set_cons_zero, List.set_cons_succ]
        refine wpAnyH_done (by kernel_rfl) ?_ _
        go_wp2
        go_ret
        exact ⟨rfl, below_later LOC.out hws⟩
      · rw [decide_eq_false hok] at HZR
        rw [if_neg hok] at HYC
        have hrp : [] = RL := by rw [hRL]; exact (if_neg hok).symm
        have HRP := Lib.hid hrp
        clear hok hRL hrp
        go_wp2_with fail
        refine (HZR.out _ HT.out).mono ?_
        rintro e w8 ⟨rfl, g8⟩
        have HT := Lib.hid (HT.out.later g8.below)
        have HX := Lib.hid (HX.out.later g8.below)
        have K4 := Lib.hid (K4.out.later g8.below)
        have LO2 := Lib.hid (below_later LO2.out g8.below)
        obtain ⟨c0, c1, lc⟩ := HT.out.k.two
        clear g8
        go_wp2_with fail
        refine (HYC.out _ HT.out).mono ?_
        rintro e w9 ⟨rfl, l9⟩
        have TT := Lib.hid (HT.out.later l9)
        have XX := Lib.hid (HX.out.later l9)
        have KK := Lib.hid (K4.out.later l9)
        have LL := Lib.hid (below_later LO2.out l9)
        have VW : Hid (SegP w9 (.slice none 0 0) RL) := Lib.hid (by rw [← HRP.out]; exact SegP.nil _)
        clear l9 c0 c1 lc
        go_upto_region 15 with fail
        obtain ⟨wc, hwc⟩ : ∃ wc, wc = w9 := ⟨_, rfl⟩
        rw [← hwc] at TT KK XX LL VW ⊢
        have HYR := Lib.hid (fun W (g : Below wc.heap.size wc W) => yrun_any o1 m1 y1 o2 q2 y2 BS LS W (TT.out.later g).b (TT.out.later g).l HB1.out HL1.out (by omega) (by omega))
        rw [HRL.out] at HYR
        have HVW := Lib.hid (fun W (g : Below wc.heap.size wc W) => VW.out.later g)
        have HXC := Lib.hid (fun W (g : Below wc.heap.size wc W) => XX.out.later g)
        have HTB := Lib.hid (fun W (g : Below wc.heap.size wc W) => (TT.out.later g).b)
        have HTL := Lib.hid (fun W (g : Below wc.heap.size wc W) => (TT.out.later g).l)
        have LOC := Lib.hid LL.out
        have hk : ∀ W', Below wc.heap.size wc W' → (W'.cell? ⟨T, 0, none⟩ = some (.slice o1 m1 y1) ∧ W'.cell? ⟨T, 1, none⟩ = some (.slice o2 q2 y2) ∧ W'.cell? ⟨w.heap.size, 0, none⟩ = some (.slice ob m cb) ∧ W'.cell? ⟨w.heap.size, 1, none⟩ = some (.slice ol q cl)) ∧ Below wc.heap.size wc W' :=
          fun W' h => ⟨⟨(TT.out.later h).k.cell 0, (TT.out.later h).k.cell 1, (KK.out.later h).cell 0, (KK.out.later h).cell 1⟩, h⟩
        have HK := Lib.hid hk
        have hws : Below wc.heap.size wc wc := Below.refl _ _
        obtain ⟨⟨e0, e1, e2, e3⟩, _⟩ := hk wc hws
        have ltT := TT.out.k.lt
        have lt0 := KK.out.lt
        clear hk hwc
        go_region_held3 (fun W' => (W'.cell? ⟨T, 0, none⟩ = some (.slice o1 m1 y1) ∧ W'.cell? ⟨T, 1, none⟩ = some (.slice o2 q2 y2) ∧ W'.cell? ⟨w.heap.size, 0, none⟩ = some (.slice ob m cb) ∧ W'.cell? ⟨w.heap.size, 1, none⟩ = some (.slice ol q cl)) ∧ Below wc.heap.size wc W')
              (first | exact HK.out _ hws | exact HK.out _ hws.drew)
              (first
                | (go_at_call 19; (with_reducible refine (HYR.out _ (by first | exact hws | exact hws.drew)).mono ?_); rintro e w3 ⟨vR, rfl, hR, lF⟩; have hws := (by first | exact hws.trans (lF.mono hws.size) | exact hws.drew.trans (lF.mono hws.size) : Below wc.heap.size wc w3); have hsz := hws.size)
                | (go_at_call 18; first
                    | ((with_reducible refine (equalP_true _ _ RL _ (by first | exact hR.seg | exact hR.drew.seg) (HVW.out _ (by first | exact hws | exact hws.drew))).mono ?_); rintro e w3 ⟨rfl, lF⟩; clear hR; have hws := (by first | exact hws.trans (lF.mono hws.size) | exact hws.drew.trans (lF.mono hws.size) : Below wc.heap.size wc w3); have hsz := hws.size)
                    | ((with_reducible refine (equalP_true _ _ Y _ (HXC.out _ (by first | exact hws | exact hws.drew)) (by first | exact hF.seg | exact hF.drew.seg)).mono ?_); rintro e w3 ⟨rfl, lF⟩; have hws := (by first | exact hws.trans (lF.mono hws.size) | exact hws.drew.trans (lF.mono hws.size) : Below wc.heap.size wc w3); have hsz := hws.size))
                | (go_at_call 10; (with_reducible refine (HOWN.out _ (by first | exact below_later LOC.out hws | exact below_later LOC.out hws.drew)).mono ?_); rintro e w3 ⟨oo, mo, yo, op, qp, yp, rfl, hB, hL, lF⟩; have hws := (by first | exact hws.trans (lF.mono hws.size) | exact hws.drew.trans (lF.mono hws.size) : Below wc.heap.size wc w3); have hsz := hws.size)
                | (go_at_call 13; (with_reducible refine (zsame_true _ _ _ _ BS LS _ (HTB.out _ (by first | exact hws | exact hws.drew)) (HTL.out _ (by first | exact hws | exact hws.drew)) (by first | exact hB.seg | exact hB.drew.seg) (by first | exact hL.seg | exact hL.drew.seg)).mono ?_); rintro e w3 ⟨rfl, lF⟩; have hws := (by first | exact hws.trans (lF.mono hws.size) | exact hws.drew.trans (lF.mono hws.size) : Below wc.heap.size wc w3); have hsz := hws.size)
                | (go_at_call 9; (with_reducible refine (HFEW.out _ (by first | exact below_later LOC.out hws | exact below_later LOC.out hws.drew)).mono ?_); rintro e w3 ⟨vF, rfl, hF, lF⟩; have hws := (by first | exact hws.trans (lF.mono hws.size) | exact hws.drew.trans (lF.mono hws.size) : Below wc.heap.size wc w3); have hsz := hws.size))
        all_goals
          go_wp2_with fail
          go_ret
          exact ⟨rfl, below_later LOC.out (by first | exact hws | exact hws.drew)⟩
end Go.Proofs.Ytbanemaiiifcaaa

