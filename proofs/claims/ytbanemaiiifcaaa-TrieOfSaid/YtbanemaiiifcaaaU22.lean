/- TrieBack: its walk. -/
import Derived.Test.YtbanemaiiifcaaaU21
import Derived.Deep.DeepCutAuto
import Derived.Deep.RegionHeld3
namespace Go.Proofs.Kit
open Go.RowKit
/-- A trie behind a pointer. -/
structure TP (tT tB tu : TypeId) (w0 : World) (T : Nat) (ob : Option Addr) (m cb : Nat) (ol : Option Addr) (q cl : Nat) (bs : List Br) (lv : List Int) (W : World) : Prop where
  k : Blk W T #[.slice ob m cb, .slice ol q cl] tT
  b : SegR W (.slice ob m cb) bs
  l : Seg .u64 W (.slice ol q cl) lv
section
variable {tT tB tu : TypeId} {w0 W W' : World} {T : Nat} {ob : Option Addr} {m cb : Nat} {ol : Option Addr} {q cl : Nat} {bs : List Br} {lv : List Int}
theorem TP.later (h : TP tT tB tu w0 T ob m cb ol q cl bs lv W) (hb : Below W.heap.size W W') : TP tT tB tu w0 T ob m cb ol q cl bs lv W' := ⟨h.k.later hb, h.b.later hb, h.l.later hb⟩
theorem TP.drew (h : TP tT tB tu w0 T ob m cb ol q cl bs lv W) : TP tT tB tu w0 T ob m cb ol q cl bs lv W.drew := h.later (Below.refl _ _).drew
theorem TP.alloc (h : TP tT tB tu w0 T ob m cb ol q cl bs lv W) (o : Obj) : TP tT tB tu w0 T ob m cb ol q cl bs lv (W.alloc o) := h.later ((Below.refl _ _).alloc (Nat.le_refl _) _)
end
/-- A trie as a value, of the call's own. -/
structure TO (tB tu : TypeId) (ob : Option Addr) (m cb : Nat) (ol : Option Addr) (q cl : Nat) (bs : List Br) (lv : List Int) (W : World) : Prop where
  b : OwnR tB 0 W (.slice ob m cb) bs
  l : Owns .u64 tu 0 W (.slice ol q cl) lv
section
variable {tB tu : TypeId} {W W' : World} {ob : Option Addr} {m cb : Nat} {ol : Option Addr} {q cl : Nat} {bs : List Br} {lv : List Int}
theorem TO.later (h : TO tB tu ob m cb ol q cl bs lv W) (hb : Below W.heap.size W W') : TO tB tu ob m cb ol q cl bs lv W' := ⟨h.b.later hb, h.l.later hb⟩
theorem TO.alloc (h : TO tB tu ob m cb ol q cl bs lv W) (o : Obj) : TO tB tu ob m cb ol q cl bs lv (W.alloc o) := h.later ((Below.refl _ _).alloc (Nat.le_refl _) _)
theorem TO.drew (h : TO tB tu ob m cb ol q cl bs lv W) : TO tB tu ob m cb ol q cl bs lv W.drew := h.later (Below.refl _ _).drew
theorem TO.st (h : TO tB tu ob m cb ol q cl bs lv W) {g : Nat} {vs : Array Value} {t : TypeId} (hb : Blk W g vs t) (h1 : tB ≠ t) (h2 : tu ≠ t) (u0 u1 : Value) : TO tB tu ob m cb ol q cl bs lv ((W.setCell ⟨g, 0, none⟩ u0).setCell ⟨g, 1, none⟩ u1) :=
  ⟨(h.b.oth (h.b.ne_blk hb h1) 0 u0).oth (h.b.ne_blk hb h1) 1 u1, (h.l.oth (h.l.ne_blk hb h2) 0 u0).oth (h.l.ne_blk hb h2) 1 u1⟩
end
theorem OwnP.shapeN {t : TypeId} {B : Nat} {w : World} {v : Value} {l : List Pr} (h : OwnP t B w v l) {n : Nat} (hn : n = l.length) : ∃ o c, v = .slice o n c := by
  obtain ⟨o, c, e⟩ := h.shape
  exact ⟨o, c, by rw [e, hn]⟩
theorem OwnP.st {tP : TypeId} {B : Nat} {W : World} {v : Value} {l : List Pr} (h : OwnP tP B W v l) {g : Nat} {vs : Array Value} {t : TypeId} (hb : Blk W g vs t) (h1 : tP ≠ t) (u0 u1 : Value) : OwnP tP B ((W.setCell ⟨g, 0, none⟩ u0).setCell ⟨g, 1, none⟩ u1) v l :=
  (h.oth (h.ne_blk hb h1) 0 u0).oth (h.ne_blk hb h1) 1 u1
end Go.Proofs.Kit
namespace Go.Proofs.Ytbanemaiiifcaaa
open Go.RowKit Go.Proofs.Kit
theorem runOf_len {bs : List Br} {lv : List Int} (h1 : bs.length ≤ 60) (h2 : lv.length ≤ 60) : (runOf bs lv).length ≤ 10000 := by
  unfold runOf
  split
  · have := prs_len lv bs
    have h3 : bs.length * lv.length ≤ 60 * 60 := Nat.mul_le_mul h1 h2
    omega
  · simp
theorem runOf_ok {bs : List Br} {lv : List Int} (h : ok7 bs lv) : ofE (runOf bs lv) = 0 ∧ ofB (runOf bs lv) = bs ∧ ofL (runOf bs lv) = lv := by
  have hT := tri h
  have e : runOf bs lv = prs bs lv := if_pos h
  have hk : okP (prs bs lv) := ⟨hT.run, hT.len⟩
  rw [e]
  exact ⟨if_pos hk, (if_pos hk).trans hT.bof, (if_pos hk).trans hT.snd⟩
theorem runOf_no {bs : List Br} {lv : List Int} (h : ¬ ok7 bs lv) : ofE (runOf bs lv) = 0 := by
  have e : runOf bs lv = [] := if_neg h
  rw [e]
  exact if_pos ⟨Run.nil, by simp⟩
abbrev TPx := @TP 26 72 40
theorem named {P : World → Prop} {w : World} (h : P w) : ∃ w', w' = w ∧ P w' := ⟨w, rfl, h⟩
theorem equalP_true (v1 v2 : Value) (l : List Pr) (w : World) (h1 : SegP w v1 l) (h2 : SegP w v2 l) : Calls Try.prog 18 #[v1, v2] w fun e w' => e = .returned (.bool true) ∧ Below w.heap.size w w' :=
  (equalP_seg v1 v2 l l w h1 h2).mono fun _ _ ⟨h, g⟩ => ⟨by rw [h]; simp, g.below⟩
theorem equalu_true (v1 v2 : Value) (l : List Int) (w : World) (h1 : Seg .u64 w v1 l) (h2 : Seg .u64 w v2 l) : Calls Try.prog 21 #[v1, v2] w fun e w' => e = .returned (.bool true) ∧ Below w.heap.size w w' :=
  (equalu_seg v1 v2 l l w h1 h2).mono fun _ _ ⟨h, g⟩ => ⟨by rw [h]; simp, g⟩
theorem has_below (v : Value) (l : List Pr) (w : World) (hs : SegP w v l) (p1 p2 : Int) : Calls Try.prog 30 #[v, PV p1 p2] w fun e w' => e = .returned (.bool (hasP l (p1, p2))) ∧ Below w.heap.size w w' :=
  (has_any v l w hs p1 p2).mono fun _ _ ⟨h, g⟩ => ⟨h, g.below⟩
theorem path_of_blk2 {W : World} {g : Nat} {a b : Int} {t : TypeId} (h : Blk W g #[.int .u64 a, .int .u64 b] t) : PathAt W (some ⟨g, 0, none⟩) [a, b] :=
  PathAt.of_seg (n := 2) (c := 2) (Seg.of_blk (l := [a, b]) (cap := 2) h (by simp) (by omega) rfl)
theorem path_of_blk1 {W : World} {g : Nat} {a : Int} {t : TypeId} (h : Blk W g #[.int .u64 a] t) : PathAt W (some ⟨g, 0, none⟩) [a] :=
  PathAt.of_seg (n := 1) (c := 1) (Seg.of_blk (l := [a]) (cap := 1) h (by simp) (by omega) rfl)
set_option maxRecDepth 100000 in
set_option maxHeartbeats 8000000 in
theorem back_true (ox : Option Addr) (nx cx : Nat) (X : List Pr) (ob : Option Addr) (m cb : Nat) (bs : List Br) (ol : Option Addr) (q cl : Nat) (lv : List Int) (p1 p2 : Int) (w : World)
    (hxn : X.length = nx) (hxc : nx ≤ cx) (hxm : cx ≤ 9223372036854775807) (hx : ArgP w ox cx X) (hX2 : ∀ x ∈ X, 0 ≤ x.2) (hm : bs.length = m) (hmc : m ≤ cb) (hcb : cb ≤ 9223372036854775807) (ab : ArgR w ob cb bs) (hq : lv.length = q) (hqc : q ≤ cl) (hcl : cl ≤ 9223372036854775807) (al : ArgI .u64 w ol cl lv) :
    Calls Try.prog 6 #[.slice ox nx cx, .agg #[.slice ob m cb, .slice ol q cl], PV p1 p2] w fun e w' => e = .returned (.bool true) ∧ Below w.heap.size w w' := by
  have HFEW := Lib.hid (fun W (g : Below w.heap.size w W) => few7_any ox nx cx X W hxn hxc hxm (hx.later g))
  have HOWN := Lib.hid (fun W (g : Below w.heap.size w W) => own7_any ob m cb ol q cl bs lv W hm hmc hcb (ab.later g) hq hqc hcl (al.later g))
  have HNN := Lib.hid (show Nn (X.take 40) from fun x hx => hX2 x (List.mem_of_mem_take hx))
  obtain ⟨n7, hn7⟩ : ∃ n7, n7 = (X.take 40).length := ⟨_, rfl⟩
  have HN7 := Lib.hid hn7
  have hmix := mixed
  clear hn7 hxn hxc hxm hx hX2 hm hmc hcb ab hq hqc hcl al
  go_enter Try.func6, Try.ntmps6
  go_wp2_with fail
  refine (wakes7_true _).mono ?_
  rintro e w1 ⟨rfl, l1⟩
  have k4 : Blk w1 w.heap.size #[.slice ob m cb, .slice ol q cl] 26 := ((Blk.new w #[.slice ob m cb, .slice ol q cl] 26).alloc (.cells #[.int .u64 p1, .int .u64 p2] 42)).later l1
  have k5 : Blk w1 (w.heap.size + 1) #[.int .u64 p1, .int .u64 p2] 42 := by
    have := (Blk.new (w.alloc (.cells #[.slice ob m cb, .slice ol q cl] 26)) #[.int .u64 p1, .int .u64 p2] 42).later l1
    simpa using this
  have lo1 := below_later ((Gr.alloc w (.cells #[.slice ob m cb, .slice ol q cl] 26)).trans (Gr.alloc _ (.cells #[.int .u64 p1, .int .u64 p2] 42))).below l1
  have K4 := Lib.hid k4
  have K5 := Lib.hid k5
  have LO1 := Lib.hid lo1
  obtain ⟨c0, c1, lc⟩ := k4.two
  clear k4 k5 lo1 l1
  go_upto_region 3 with fail
  go_cut [7, 8] (fun s7 s8 wx => ∃ (o7 : Option Addr) (c7 T : Nat) (o1 : Option Addr) (m1 y1 : Nat) (o2 : Option Addr) (q2 y2 : Nat), s7 = .slice o7 n7 c7 ∧ s8 = .pointer (some ⟨T, 0, none⟩) ∧ Hid (SegP wx (.slice o7 n7 c7) (X.take 40)) ∧ Hid (TPx w T o1 m1 y1 o2 q2 y2 (bs.take 40) (lv.take 60) wx) ∧ Hid (Below w1.heap.size w1 wx))
  case first =>
    have hk : ∀ W', Below w1.heap.size w1 W' → (W'.cell? ⟨w.heap.size, 0, none⟩ = some (.slice ob m cb) ∧ W'.cell? ⟨w.heap.size, 1, none⟩ = some (.slice ol q cl)) ∧ Below w1.heap.size w1 W' := fun W' h => ⟨⟨(K4.out.later h).cell 0, (K4.out.later h).cell 1⟩, h⟩
    have HK := Lib.hid hk
    have hws : Below w1.heap.size w1 w1 := Below.refl _ _
    clear hk
    go_region_held3 (fun W' => (W'.cell? ⟨w.heap.size, 0, none⟩ = some (.slice ob m cb) ∧ W'.cell? ⟨w.heap.size, 1, none⟩ = some (.slice ol q cl)) ∧ Below w1.heap.size w1 W')
      (first | exact HK.out _ hws | exact HK.out _ hws.drew | exact HK.out _ (hws.alloc hws.size _) | exact HK.out _ (hws.drew.alloc hws.size _) | exact HK.out _ (hws.alloc hws.size _).drew | exact HK.out _ ((hws.setCell (by first | (simp; done) | (have := hws.size; simp; omega)) _).setCell (by first | (simp; done) | (have := hws.size; simp; omega)) _))
      (first
        | (go_at_call 9; (with_reducible refine (HFEW.out _ (by first | exact below_later LO1.out hws | exact below_later LO1.out hws.drew | exact below_later LO1.out (hws.alloc hws.size _) | exact below_later LO1.out (hws.alloc hws.size _).drew)).mono ?_); rintro e w3 ⟨v3, rfl, hF, lF⟩; obtain ⟨o3, x3, rfl⟩ := hF.shapeN HN7.out; (first | (have hO := hO.later lF) | (have hO := (hO.alloc _).later lF) | (have hO := (hO.alloc _).drew.later lF) | (have hO := hO.drew.later lF) | skip); (first | (have kz := kz.later lF) | (have kz : Blk w3 _ #[.slice none 0 0, .slice none 0 0] 26 := (Blk.new _ _ _).later lF) | (have kz : Blk w3 _ #[.slice none 0 0, .slice none 0 0] 26 := (Blk.new _ _ _).drew.later lF) | skip); have hws := (by first | exact hws.trans (lF.mono hws.size) | exact hws.drew.trans (lF.mono hws.size) | exact (hws.alloc hws.size _).trans (lF.mono (hws.alloc hws.size _).size) | exact (hws.alloc hws.size _).drew.trans (lF.mono (hws.alloc hws.size _).size) : Below w1.heap.size w1 w3); have hsz := hws.size; (first | (obtain ⟨z0, z1⟩ := kz.z2; obtain ⟨v0, v1, vl⟩ := kz.two) | skip))
        | (go_at_call 10; (with_reducible refine (HOWN.out _ (by first | exact below_later LO1.out hws | exact below_later LO1.out hws.drew | exact below_later LO1.out (hws.alloc hws.size _) | exact below_later LO1.out (hws.alloc hws.size _).drew)).mono ?_); rintro e w3 ⟨o1, m1, y1, o2, q2, y2, rfl, hB, hL, lF⟩; have hO : TO 72 40 o1 m1 y1 o2 q2 y2 (bs.take 40) (lv.take 60) w3 := ⟨hB.mono (Nat.zero_le _), hL.mono (Nat.zero_le _)⟩; clear hB hL; (first | (have hF := hF.later lF) | (have hF := (hF.alloc _).later lF) | (have hF := (hF.alloc _).drew.later lF) | (have hF := hF.drew.later lF) | skip); (first | (have kz := kz.later lF) | (have kz : Blk w3 _ #[.slice none 0 0, .slice none 0 0] 26 := (Blk.new _ _ _).later lF) | (have kz : Blk w3 _ #[.slice none 0 0, .slice none 0 0] 26 := (Blk.new _ _ _).drew.later lF) | skip); have hws := (by first | exact hws.trans (lF.mono hws.size) | exact hws.drew.trans (lF.mono hws.size) | exact (hws.alloc hws.size _).trans (lF.mono (hws.alloc hws.size _).size) | exact (hws.alloc hws.size _).drew.trans (lF.mono (hws.alloc hws.size _).size) : Below w1.heap.size w1 w3); have hsz := hws.size; (first | (obtain ⟨z0, z1⟩ := kz.z2; obtain ⟨v0, v1, vl⟩ := kz.two) | skip)))
    all_goals
      refine then_at ?_
      intro W4 hW4
      (first
        | (have hn : Blk W4 w3.heap.size #[.slice o1 m1 y1, .slice o2 q2 y2] 26 := by rw [hW4]; exact Blk.new _ _ _
           have hF4 : SegP W4 (.slice o3 n7 x3) (X.take 40) := by rw [hW4]; exact hF.seg.alloc _
           have hO4 : TO 72 40 o1 m1 y1 o2 q2 y2 (bs.take 40) (lv.take 60) W4 := by rw [hW4]; exact hO.later (Gr.alloc _ _).below
           have hw4 : Below w1.heap.size w1 W4 := by rw [hW4]; exact hws.alloc hws.size _
           clear hW4
           go_wp2_with fail
           go_meet
           exact ⟨o3, x3, w3.heap.size, o1, m1, y1, o2, q2, y2, rfl, rfl, Lib.hid hF4, Lib.hid ⟨hn, hO4.b.seg, hO4.l.seg⟩, Lib.hid hw4⟩)
        | (have hF4 : SegP W4 (.slice o3 n7 x3) (X.take 40) := by rw [hW4]; exact (hF.st kz (by decide) _ _).seg
           have hO4 : TO 72 40 o1 m1 y1 o2 q2 y2 (bs.take 40) (lv.take 60) W4 := by rw [hW4]; exact hO.st kz (by decide) (by decide) _ _
           have hw4 : Below w1.heap.size w1 W4 := by rw [hW4]; exact (hws.setCell (by first | (simp; done) | (have := hws.size; simp; omega)) _).setCell (by first | (simp; done) | (have := hws.size; simp; omega)) _
           have hn := kz.set2 (.slice o1 m1 y1) (.slice o2 q2 y2)
           rw [← hW4] at hn
           clear hW4
           go_wp2_with fail
           go_meet
           exact ⟨o3, x3, _, o1, m1, y1, o2, q2, y2, rfl, rfl, Lib.hid hF4, Lib.hid ⟨hn, hO4.b.seg, hO4.l.seg⟩, Lib.hid hw4⟩))
  case rest =>
    obtain ⟨o7, c7, T, o1, m1, y1, o2, q2, y2, rfl, rfl, HX, HT, HW⟩ := hcut
    obtain ⟨Y, hY⟩ : ∃ Y, Y = X.take 40 := ⟨_, rfl⟩
    obtain ⟨BS, hBS⟩ : ∃ BS, BS = bs.take 40 := ⟨_, rfl⟩
    obtain ⟨LS, hLS⟩ : ∃ LS, LS = lv.take 60 := ⟨_, rfl⟩
    have hYl : Y.length ≤ 40 := by rw [hY, List.length_take]; omega
    have hBl : m1 ≤ 40 := by have := segR_len HT.out.b; rw [List.length_take] at this; omega
    have hLl : q2 ≤ 60 := by have := seg_len HT.out.l; rw [List.length_take] at this; omega
    rw [← hY] at HX HNN HN7
    rw [← hBS, ← hLS] at HT
    have LO2 := Lib.hid (below_later LO1.out HW.out)
    have K5 := Lib.hid (K5.out.later HW.out)
    have hn7l : n7 ≤ 40 := by have := HN7.out; omega
    clear hY hBS hLS HFEW HOWN HW K4 LO1 c0 c1 lc
    have HYL := Lib.hid hYl
    clear hYl
    go_wp2_with fail
    refine (yof_any _ Y _ HX.out (by have := HYL.out; omega)).mono ?_
    rintro e w5 ⟨oa, ma, xa, ol9, qa, ya, rfl, hB, hL, l5⟩
    have HT := Lib.hid (HT.out.later l5)
    have HX := Lib.hid (HX.out.later l5)
    have K5 := Lib.hid (K5.out.later l5)
    have LO2 := Lib.hid (below_later LO2.out l5)
    have SB := Lib.hid hB.seg
    have SL := Lib.hid hL.seg
    clear hB hL l5
    obtain ⟨E, hE⟩ : ∃ E, E = ofE Y := ⟨_, rfl⟩
    rw [← hE]
    have HE := Lib.hid hE
    clear hE
    go_upto_if 27 with (fail)
    go_cut [11, 12] from 15 to 105 (fun _ _ wx => Hid (TPx w T o1 m1 y1 o2 q2 y2 BS LS wx) ∧ Hid (Below w.heap.size w wx))
    case first =>
      by_cases hok : okP Y
      · obtain ⟨hTri, hok7⟩ := tri_of hok
        have q1 : ofB Y = bof Y := if_pos hok
        have q2' : ofL Y = Y.map (·.2) := if_pos hok
        have q3 : E = 0 := by rw [HE.out]; exact if_pos hok
        rw [q1] at SB
        rw [q2'] at SL
        obtain rfl : n7 = qa := by have h1 := seg_len SL.out; rw [List.length_map] at h1; rw [HN7.out, h1]
        have hma : (bof Y).length = ma := segR_len SB.out
        have hml : ma ≤ 40 := by have h1 := bof_le Y; have h2 := HYL.out; omega
        have hfY : firstsP Y = dd (Y.map (·.1)) := if_pos hok
        have hfl : (firstsP Y).length = ma := by rw [hfY, ← bof_len, hma]
        have hql : (Y.map (·.2)).length = n7 := by rw [List.length_map]; exact HN7.out.symm
        have hrun : runOf (bof Y) (Y.map (·.2)) = Y := by unfold runOf; rw [if_pos hok7, hTri.prs]
        have hsz7 : sizeOf7 (bof Y) (Y.map (·.2)) = (ma, n7) := by unfold sizeOf7; rw [if_pos hok7, hma, hql]
        obtain ⟨G, hG⟩ : ∃ G, G = hasP Y (p1, p2) := ⟨_, rfl⟩
        have hGr : ((rowOf (bof Y) (Y.map (·.2)) [p1, p2]).isSome && decide (0 < ma)) = G := by
          rw [hG, row2 hTri hok7]
          unfold hasP
          by_cases hm : (p1, p2) ∈ Y
          · have := bof_pos hm
            rw [hma] at this
            simp [hm, this, show Run Y ∧ Y.length ≤ 1048576 from hok]
          · simp [hm]
        have hk0 : (rowOf (bof Y) (Y.map (·.2)) []).getD [] = firstsP Y := by rw [row0 hTri hok7, hfY]
        have hsY : secondsP Y p1 = (Y.filter fun x => decide (x.1 = p1)).map (·.2) := if_pos hok
        have hk1 : (rowOf (bof Y) (Y.map (·.2)) [p1]).getD [] = secondsP Y p1 := by rw [row1 hTri hok7, hsY]
        obtain ⟨n2, hn2⟩ : ∃ n2, n2 = (secondsP Y p1).length := ⟨_, rfl⟩
        have HM2 := Lib.hid hn2.symm
        have HMA := Lib.hid hfl
        obtain ⟨t9, ht9⟩ : ∃ t9, t9 = w5.heap.size := ⟨_, rfl⟩
        have HT9 := Lib.hid ht9
        obtain ⟨wc, hwc⟩ : ∃ wc, wc = w5.alloc (.cells #[.slice oa ma xa, .slice ol9 n7 ya] 26) := ⟨_, rfl⟩
        have TA : Hid (TPx w t9 oa ma xa ol9 n7 ya (bof Y) (Y.map (·.2)) wc) := Lib.hid (by rw [hwc, ht9]; exact ⟨Blk.new _ _ _, SB.out.alloc _, SL.out.alloc _⟩)
        have st : Below w5.heap.size w5 wc := by rw [hwc]; exact (Gr.alloc _ _).below
        rw [← hwc, ← ht9]
        have HT := Lib.hid (HT.out.later st)
        have HX := Lib.hid (HX.out.later st)
        have K5 := Lib.hid (K5.out.later st)
        have LO2 := Lib.hid (below_later LO2.out st)
        have HSZ := Lib.hid (ysize_any oa ma xa ol9 n7 ya (bof Y) (Y.map (·.2)) wc TA.out.b TA.out.l hma hql (by omega) (by omega))
        rw [hsz7] at HSZ
        have g1 : (E == 0) = true := by rw [q3]; rfl
        have HQ3 := Lib.hid q3
        have HTRI := Lib.hid hTri
        have HOK7 := Lib.hid hok7
        have HMA2 := Lib.hid hma
        have HQL := Lib.hid hql
        have HRUN := Lib.hid hrun
        have HGR := Lib.hid hGr
        have HG := Lib.hid hG.symm
        have HK0' := Lib.hid hk0
        have HK1' := Lib.hid hk1
        clear q1 q2' q3 hma hfY hfl hql hrun hsz7 hG hGr hk0 hsY hk1 hn2 ht9 hwc st SB SL hok hTri hok7
        obtain ⟨e0, e1, le⟩ := TA.out.k.two
        go_wp2_with fail
        refine HSZ.out.mono ?_
        rintro e w6 ⟨rfl, l6⟩
        have TA := Lib.hid (TA.out.later l6)
        have HT := Lib.hid (HT.out.later l6)
        have HX := Lib.hid (HX.out.later l6)
        have K5 := Lib.hid (K5.out.later l6)
        have LO2 := Lib.hid (below_later LO2.out l6)
        clear l6 HSZ e0 e1 le
        go_upto_region 7 with fail
        go_cut [68] (fun s wx => s = .bool false ∧ Hid (Below w6.heap.size w6 wx))
        case first =>
          obtain ⟨wc, hwc⟩ : ∃ wc, wc = w6 := ⟨_, rfl⟩
          rw [← hwc] at TA HX K5 ⊢
          have HYR := Lib.hid (fun W (g : Below wc.heap.size wc W) => yrun_any oa ma xa ol9 n7 ya (bof Y) (Y.map (·.2)) W (TA.out.later g).b (TA.out.later g).l HMA2.out HQL.out (by omega) (by omega))
          rw [HRUN.out] at HYR
          have HYC := Lib.hid (fun W (g : Below wc.heap.size wc W) => ycheck_any oa ma xa ol9 n7 ya (bof Y) (Y.map (·.2)) W (TA.out.later g).b (TA.out.later g).l HMA2.out HQL.out (by omega) (by omega))
          rw [if_pos HOK7.out] at HYC
          have HYH := Lib.hid (fun W op (hp : PathAt W op [p1, p2]) (g : Below wc.heap.size wc W) => yhas_any oa ma xa ol9 n7 ya (bof Y) (Y.map (·.2)) op 2 2 [p1, p2] W (TA.out.later g).b (TA.out.later g).l HMA2.out HQL.out (by omega) (by omega) hp rfl (by omega))
          rw [HGR.out] at HYH
          have HRH := Lib.hid (fun W (g : Below wc.heap.size wc W) => has_below _ Y W (HX.out.later g) p1 p2)
          rw [HG.out] at HRH
          have HRF := Lib.hid (fun W (g : Below wc.heap.size wc W) => firsts_any _ Y W (HX.out.later g))
          have g2 : (G != G) = false := by cases G <;> rfl
          have g3 : ((n7 : Int) != (n7 : Int)) = false := by simp
          have g4 : ((ma : Int) != (ma : Int)) = false := by simp
          have hk : ∀ W', Below wc.heap.size wc W' → (W'.cell? ⟨t9, 0, none⟩ = some (.slice oa ma xa) ∧ W'.cell? ⟨t9, 1, none⟩ = some (.slice ol9 n7 ya) ∧ W'.cell? ⟨w.heap.size + 1, 0, none⟩ = some (.int .u64 p1) ∧ W'.cell? ⟨w.heap.size + 1, 1, none⟩ = some (.int .u64 p2)) ∧ Below wc.heap.size wc W' :=
            fun W' h => ⟨⟨(TA.out.later h).k.cell 0, (TA.out.later h).k.cell 1, (K5.out.later h).cell 0, (K5.out.later h).cell 1⟩, h⟩
          have HK := Lib.hid hk
          have hws : Below wc.heap.size wc wc := Below.refl _ _
          obtain ⟨⟨e0, e1, e2, e3⟩, _⟩ := hk wc hws
          have lt9 := TA.out.k.lt
          have lt5 := K5.out.lt
          clear hk
          have HWC := Lib.hid hwc
          clear hwc
          go_region_held3 (fun W' => (W'.cell? ⟨t9, 0, none⟩ = some (.slice oa ma xa) ∧ W'.cell? ⟨t9, 1, none⟩ = some (.slice ol9 n7 ya) ∧ W'.cell? ⟨w.heap.size + 1, 0, none⟩ = some (.int .u64 p1) ∧ W'.cell? ⟨w.heap.size + 1, 1, none⟩ = some (.int .u64 p2)) ∧ Below wc.heap.size wc W')
            (first | exact HK.out _ hws | exact HK.out _ hws.drew | exact HK.out _ (hws.alloc hws.size _) | exact HK.out _ (hws.drew.alloc hws.size _) | exact HK.out _ (hws.alloc hws.size _).drew)
            (first
              | (go_at_call 19; (with_reducible refine (HYR.out _ (by first | exact hws | exact hws.drew | exact hws.alloc hws.size _ | exact (hws.alloc hws.size _).drew)).mono ?_); rintro e w3 ⟨vR, rfl, hR, lF⟩; obtain ⟨oR, cR, rfl⟩ := hR.shapeN HN7.out; have hws := (by first | exact hws.trans (lF.mono hws.size) | exact hws.drew.trans (lF.mono hws.size) | exact (hws.alloc hws.size _).trans (lF.mono (hws.alloc hws.size _).size) | exact (hws.alloc hws.size _).drew.trans (lF.mono (hws.alloc hws.size _).size) : Below wc.heap.size wc w3); have hsz := hws.size)
              | (go_at_call 18; (with_reducible refine (equalP_true _ _ Y _ (by first | exact hR.seg | exact hR.drew.seg | exact (hR.alloc _).seg | exact (hR.alloc _).drew.seg) (HX.out.later (by first | exact hws | exact hws.drew | exact hws.alloc hws.size _ | exact (hws.alloc hws.size _).drew))).mono ?_); rintro e w3 ⟨rfl, lF⟩; have hws := (by first | exact hws.trans (lF.mono hws.size) | exact hws.drew.trans (lF.mono hws.size) | exact (hws.alloc hws.size _).trans (lF.mono (hws.alloc hws.size _).size) | exact (hws.alloc hws.size _).drew.trans (lF.mono (hws.alloc hws.size _).size) : Below wc.heap.size wc w3); have hsz := hws.size)
              | (go_at_call 17; (with_reducible refine (HYC.out _ (by first | exact hws | exact hws.drew | exact hws.alloc hws.size _ | exact (hws.alloc hws.size _).drew)).mono ?_); rintro e w3 ⟨rfl, lF⟩; have hws := (by first | exact hws.trans (lF.mono hws.size) | exact hws.drew.trans (lF.mono hws.size) | exact (hws.alloc hws.size _).trans (lF.mono (hws.alloc hws.size _).size) | exact (hws.alloc hws.size _).drew.trans (lF.mono (hws.alloc hws.size _).size) : Below wc.heap.size wc w3); have hsz := hws.size)
              | (go_at_call 23; (with_reducible refine (HYH.out _ _ (by first | exact path_of_blk2 (Blk.new _ _ _) | exact path_of_blk2 (Blk.new _ _ _).drew | exact path_of_blk2 kz | exact path_of_blk2 kz.drew) (by first | exact hws | exact hws.drew | exact hws.alloc hws.size _ | exact (hws.alloc hws.size _).drew)).mono ?_); rintro e w3 ⟨rfl, lF⟩; have hws := (by first | exact hws.trans (lF.mono hws.size) | exact hws.drew.trans (lF.mono hws.size) | exact (hws.alloc hws.size _).trans (lF.mono (hws.alloc hws.size _).size) | exact (hws.alloc hws.size _).drew.trans (lF.mono (hws.alloc hws.size _).size) : Below wc.heap.size wc w3); have hsz := hws.size)
              | (go_at_call 30; (with_reducible refine (HRH.out _ (by first | exact hws | exact hws.drew | exact hws.alloc hws.size _ | exact (hws.alloc hws.size _).drew)).mono ?_); rintro e w3 ⟨rfl, lF⟩; (first | (have kz := kz.later lF) | (have kz : Blk w3 _ #[.int .u64 p1, .int .u64 p2] 40 := (Blk.new _ _ _).later lF) | (have kz : Blk w3 _ #[.int .u64 p1, .int .u64 p2] 40 := (Blk.new _ _ _).drew.later lF) | skip); have hws := (by first | exact hws.trans (lF.mono hws.size) | exact hws.drew.trans (lF.mono hws.size) | exact (hws.alloc hws.size _).trans (lF.mono (hws.alloc hws.size _).size) | exact (hws.alloc hws.size _).drew.trans (lF.mono (hws.alloc hws.size _).size) : Below wc.heap.size wc w3); have hsz := hws.size)
              | (go_at_call 31; (with_reducible refine (HRF.out _ (by first | exact hws | exact hws.drew | exact hws.alloc hws.size _ | exact (hws.alloc hws.size _).drew)).mono ?_); rintro e w3 ⟨vF, rfl, hF, lF⟩; obtain ⟨oF, cF, rfl⟩ := hF.shapeN HMA.out; have hws := (by first | exact hws.trans (lF.mono hws.size) | exact hws.drew.trans (lF.mono hws.size) | exact (hws.alloc hws.size _).trans (lF.mono (hws.alloc hws.size _).size) | exact (hws.alloc hws.size _).drew.trans (lF.mono (hws.alloc hws.size _).size) : Below wc.heap.size wc w3); have hsz := hws.size))
          all_goals
            go_wp2_with fail
            go_meet
            exact ⟨rfl, Lib.hid (by rw [← HWC.out]; first | exact hws | exact hws.drew)⟩
        case rest =>
          obtain ⟨rfl, HB7⟩ := hcut
          obtain ⟨wx, hwx, hb7⟩ := named (P := fun W => Below w6.heap.size w6 W) HB7.out
          subst hwx
          clear hb7
          have TA := Lib.hid (TA.out.later HB7.out)
          have HT := Lib.hid (HT.out.later HB7.out)
          have HX := Lib.hid (HX.out.later HB7.out)
          have K5 := Lib.hid (K5.out.later HB7.out)
          have LO2 := Lib.hid (below_later LO2.out HB7.out)
          clear HB7
          go_upto_region 9 with fail
          go_cut [87] (fun s wy => s = .bool false ∧ Hid (Below wx.heap.size wx wy))
          case first =>
            obtain ⟨wc, hwc⟩ : ∃ wc, wc = wx := ⟨_, rfl⟩
            rw [← hwc] at TA HX K5 ⊢
            have HK0 := Lib.hid (fun W (g : Below wc.heap.size wc W) => ykeys_any oa ma xa ol9 n7 ya (bof Y) (Y.map (·.2)) none 0 0 [] W (TA.out.later g).b (TA.out.later g).l HMA2.out HQL.out (by omega) (by omega) (fun i hi => by simp at hi) rfl (by omega))
            rw [HK0'.out] at HK0
            have HK1 := Lib.hid (fun W op (hp : PathAt W op [p1]) (g : Below wc.heap.size wc W) => ykeys_any oa ma xa ol9 n7 ya (bof Y) (Y.map (·.2)) op 1 1 [p1] W (TA.out.later g).b (TA.out.later g).l HMA2.out HQL.out (by omega) (by omega) hp rfl (by omega))
            rw [HK1'.out] at HK1
            have HRF := Lib.hid (fun W (g : Below wc.heap.size wc W) => firsts_any _ Y W (HX.out.later g))
            have HRS := Lib.hid (fun W (g : Below wc.heap.size wc W) => seconds_any _ Y W (HX.out.later g) HNN.out p1)
            have hk : ∀ W', Below wc.heap.size wc W' → (W'.cell? ⟨t9, 0, none⟩ = some (.slice oa ma xa) ∧ W'.cell? ⟨t9, 1, none⟩ = some (.slice ol9 n7 ya) ∧ W'.cell? ⟨w.heap.size + 1, 0, none⟩ = some (.int .u64 p1) ∧ W'.cell? ⟨w.heap.size + 1, 1, none⟩ = some (.int .u64 p2)) ∧ Below wc.heap.size wc W' :=
              fun W' h => ⟨⟨(TA.out.later h).k.cell 0, (TA.out.later h).k.cell 1, (K5.out.later h).cell 0, (K5.out.later h).cell 1⟩, h⟩
            have HK := Lib.hid hk
            have hws : Below wc.heap.size wc wc := Below.refl _ _
            obtain ⟨⟨e0, e1, e2, e3⟩, _⟩ := hk wc hws
            have lt9 := TA.out.k.lt
            have lt5 := K5.out.lt
            clear hk
            have HWC := Lib.hid hwc
            clear hwc
            go_region_held3 (fun W' => (W'.cell? ⟨t9, 0, none⟩ = some (.slice oa ma xa) ∧ W'.cell? ⟨t9, 1, none⟩ = some (.slice ol9 n7 ya) ∧ W'.cell? ⟨w.heap.size + 1, 0, none⟩ = some (.int .u64 p1) ∧ W'.cell? ⟨w.heap.size + 1, 1, none⟩ = some (.int .u64 p2)) ∧ Below wc.heap.size wc W')
              (first | exact HK.out _ hws | exact HK.out _ hws.drew | exact HK.out _ (hws.alloc hws.size _) | exact HK.out _ (hws.drew.alloc hws.size _) | exact HK.out _ (hws.alloc hws.size _).drew)
              (first
                | (go_at_call 20; first
                    | ((with_reducible refine (HK0.out _ (by first | exact hws | exact hws.drew | exact hws.alloc hws.size _ | exact (hws.alloc hws.size _).drew)).mono ?_); rintro e w3 ⟨vK, rfl, hK, lF⟩; obtain ⟨oK, cK, rfl⟩ := hK.shapeN HMA.out; (first | (have hF := hF.later lF) | (have hF := hF.drew.later lF) | (have hF := (hF.alloc _).later lF) | (have hF := (hF.alloc _).drew.later lF) | skip); have hws := (by first | exact hws.trans (lF.mono hws.size) | exact hws.drew.trans (lF.mono hws.size) | exact (hws.alloc hws.size _).trans (lF.mono (hws.alloc hws.size _).size) | exact (hws.alloc hws.size _).drew.trans (lF.mono (hws.alloc hws.size _).size) : Below wc.heap.size wc w3); have hsz := hws.size)
                    | ((with_reducible refine (HK1.out _ _ (by first | exact path_of_blk1 (Blk.new _ _ _) | exact path_of_blk1 (Blk.new _ _ _).drew | exact path_of_blk1 kz | exact path_of_blk1 kz.drew) (by first | exact hws | exact hws.drew | exact hws.alloc hws.size _ | exact (hws.alloc hws.size _).drew)).mono ?_); rintro e w3 ⟨vK, rfl, hK2, lF⟩; obtain ⟨oK2, cK2, rfl⟩ := hK2.shapeN HM2.out; (first | (have hS := hS.later lF) | (have hS := hS.drew.later lF) | (have hS := (hS.alloc _).later lF) | (have hS := (hS.alloc _).drew.later lF) | skip); have hws := (by first | exact hws.trans (lF.mono hws.size) | exact hws.drew.trans (lF.mono hws.size) | exact (hws.alloc hws.size _).trans (lF.mono (hws.alloc hws.size _).size) | exact (hws.alloc hws.size _).drew.trans (lF.mono (hws.alloc hws.size _).size) : Below wc.heap.size wc w3); have hsz := hws.size))
                | (go_at_call 31; (with_reducible refine (HRF.out _ (by first | exact hws | exact hws.drew | exact hws.alloc hws.size _ | exact (hws.alloc hws.size _).drew)).mono ?_); rintro e w3 ⟨vF, rfl, hF, lF⟩; obtain ⟨oF, cF, rfl⟩ := hF.shapeN HMA.out; (first | (have hK := hK.later lF) | (have hK := hK.drew.later lF) | (have hK := (hK.alloc _).later lF) | (have hK := (hK.alloc _).drew.later lF) | skip); have hws := (by first | exact hws.trans (lF.mono hws.size) | exact hws.drew.trans (lF.mono hws.size) | exact (hws.alloc hws.size _).trans (lF.mono (hws.alloc hws.size _).size) | exact (hws.alloc hws.size _).drew.trans (lF.mono (hws.alloc hws.size _).size) : Below wc.heap.size wc w3); have hsz := hws.size)
                | (go_at_call 32; (with_reducible refine (HRS.out _ (by first | exact hws | exact hws.drew | exact hws.alloc hws.size _ | exact (hws.alloc hws.size _).drew)).mono ?_); rintro e w3 ⟨vS, rfl, hS, lF⟩; obtain ⟨oS, cS, rfl⟩ := hS.shapeN HM2.out; (first | (have hK2 := hK2.later lF) | (have hK2 := hK2.drew.later lF) | (have hK2 := (hK2.alloc _).later lF) | (have hK2 := (hK2.alloc _).drew.later lF) | skip); (first | (have kz := kz.later lF) | (have kz : Blk w3 _ #[.int .u64 p1] 40 := (Blk.new _ _ _).later lF) | (have kz : Blk w3 _ #[.int .u64 p1] 40 := (Blk.new _ _ _).drew.later lF) | skip); have hws := (by first | exact hws.trans (lF.mono hws.size) | exact hws.drew.trans (lF.mono hws.size) | exact (hws.alloc hws.size _).trans (lF.mono (hws.alloc hws.size _).size) | exact (hws.alloc hws.size _).drew.trans (lF.mono (hws.alloc hws.size _).size) : Below wc.heap.size wc w3); have hsz := hws.size)
                | (go_at_call 21; first
                    | ((with_reducible refine (equalu_true _ _ (firstsP Y) _ (by first | exact hK.seg | exact hK.drew.seg | exact (hK.alloc _).seg | exact (hK.alloc _).drew.seg) (by first | exact hF.seg | exact hF.drew.seg | exact (hF.alloc _).seg | exact (hF.alloc _).drew.seg)).mono ?_); rintro e w3 ⟨rfl, lF⟩; have hws := (by first | exact hws.trans (lF.mono hws.size) | exact hws.drew.trans (lF.mono hws.size) | exact (hws.alloc hws.size _).trans (lF.mono (hws.alloc hws.size _).size) | exact (hws.alloc hws.size _).drew.trans (lF.mono (hws.alloc hws.size _).size) : Below wc.heap.size wc w3); have hsz := hws.size)
                    | ((with_reducible refine (equalu_true _ _ (secondsP Y p1) _ (by first | exact hK2.seg | exact hK2.drew.seg | exact (hK2.alloc _).seg | exact (hK2.alloc _).drew.seg) (by first | exact hS.seg | exact hS.drew.seg | exact (hS.alloc _).seg | exact (hS.alloc _).drew.seg)).mono ?_); rintro e w3 ⟨rfl, lF⟩; have hws := (by first | exact hws.trans (lF.mono hws.size) | exact hws.drew.trans (lF.mono hws.size) | exact (hws.alloc hws.size _).trans (lF.mono (hws.alloc hws.size _).size) | exact (hws.alloc hws.size _).drew.trans (lF.mono (hws.alloc hws.size _).size) : Below wc.heap.size wc w3); have hsz := hws.size)))
            all_goals
              go_wp2_with fail
              go_meet
              exact ⟨rfl, Lib.hid (by rw [← HWC.out]; first | exact hws | exact hws.drew)⟩
          case rest =>
            obtain ⟨rfl, HB9⟩ := hcut
            go_wp2_with fail
            rw [HT9.out]
            go_meet
            exact ⟨Lib.hid (HT.out.later HB9.out), Lib.hid (below_later LO2.out HB9.out)⟩
      · have q3 : E = 130 := by rw [HE.out]; exact if_neg hok
        subst q3
        clear hok
        have HT := Lib.hid (HT.out.alloc (.cells #[.slice oa ma xa, .slice ol9 qa ya] 26))
        have LO2 := Lib.hid (LO2.out.alloc LO2.out.size (.cells #[.slice oa ma xa, .slice ol9 qa ya] 26))
        go_wp2_with fail
        go_meet
        exact ⟨HT, LO2⟩
    case rest =>
      obtain ⟨HT, HW⟩ := hcut
      have e1 : BS.length = m1 := segR_len HT.out.b
      have e2 : LS.length = q2 := seg_len HT.out.l
      have hrl := runOf_len (bs := BS) (lv := LS) (by omega) (by omega)
      have HRL := Lib.hid hrl
      have HYR := Lib.hid (fun W (h : TPx w T o1 m1 y1 o2 q2 y2 BS LS W) => yrun_any o1 m1 y1 o2 q2 y2 BS LS W h.b h.l e1 e2 (by omega) (by omega))
      have HYC := Lib.hid (fun W (h : TPx w T o1 m1 y1 o2 q2 y2 BS LS W) => ycheck_any o1 m1 y1 o2 q2 y2 BS LS W h.b h.l e1 e2 (by omega) (by omega))
      have HE1 := Lib.hid e1
      have HE2 := Lib.hid e2
      clear e1 e2 hrl
      obtain ⟨c0, c1, lc⟩ := HT.out.k.two
      go_wp2_with fail
      refine (HYR.out _ HT.out).mono ?_
      rintro e w6 ⟨v6, rfl, hO6, l6⟩
      have HT := Lib.hid (HT.out.later l6)
      have HW := Lib.hid (below_later HW.out l6)
      have HO6 := Lib.hid hO6.seg
      clear hO6 l6 c0 c1 lc
      go_wp2_with fail
      refine (yof_any _ (runOf BS LS) _ HO6.out (by have := HRL.out; omega)).mono ?_
      rintro e w7 ⟨ob7, m7, x7, ol7, q7, y7, rfl, hB, hL, l7⟩
      have HT := Lib.hid (HT.out.later l7)
      have HW := Lib.hid (below_later HW.out l7)
      obtain ⟨c0, c1, lc⟩ := HT.out.k.two
      obtain ⟨R7, hR7⟩ : ∃ R7, R7 = runOf BS LS := ⟨_, rfl⟩
      by_cases hok : ok7 BS LS
      · obtain ⟨q1, q3, q4⟩ := runOf_ok hok
        rw [q3] at hB
        rw [q4] at hL
        rw [q1]
        have HSM := Lib.hid (fun W (g : Below w7.heap.size w7 W) => same7_any (.slice ob7 m7 x7) (.slice ol7 q7 y7) (.slice o1 m1 y1) (.slice o2 q2 y2) BS BS LS LS W (hB.seg.later g) (hL.seg.later g) (HT.out.later g).b (HT.out.later g).l)
        simp only [decide_true, Bool.and_true] at HSM
        have HOK := Lib.hid hok
        clear hB hL l7 q1 q3 q4 hok hR7 HO6
        go_wp2_with fail
        obtain ⟨W8, hW8⟩ : ∃ W8, W8 = w7.alloc (.cells #[.slice ob7 m7 x7, .slice ol7 q7 y7] 26) := ⟨_, rfl⟩
        rw [← hW8]
        have k8 : Blk W8 w7.heap.size #[.slice ob7 m7 x7, .slice ol7 q7 y7] 26 := by rw [hW8]; exact Blk.new _ _ _
        have st8 : Below w7.heap.size w7 W8 := by rw [hW8]; exact (Gr.alloc _ _).below
        clear hW8 c0 c1 lc
        refine (HYC.out _ (HT.out.later st8)).mono ?_
        rw [if_pos HOK.out]
        rintro e w9 ⟨rfl, l9⟩
        have st9 := below_later st8 l9
        obtain ⟨c0, c1, lc⟩ := (HT.out.later st9).k.two
        obtain ⟨d0, d1, ld⟩ := (k8.later l9).two
        have HST := Lib.hid st9
        clear st8 st9 l9 k8
        go_wp2_with fail
        refine (HSM.out _ HST.out).mono ?_
        rintro e w10 ⟨rfl, l10⟩
        go_wp2
        go_ret
        exact ⟨by simp, below_later (below_later HW.out HST.out) l10⟩
      · have q1 := runOf_no hok
        rw [q1]
        have HOK := Lib.hid hok
        clear hB hL l7 q1 hok hR7 HO6
        go_wp2_with fail
        obtain ⟨W8, hW8⟩ : ∃ W8, W8 = w7.alloc (.cells #[.slice ob7 m7 x7, .slice ol7 q7 y7] 26) := ⟨_, rfl⟩
        rw [← hW8]
        have st8 : Below w7.heap.size w7 W8 := by rw [hW8]; exact (Gr.alloc _ _).below
        clear hW8 c0 c1 lc
        refine (HYC.out _ (HT.out.later st8)).mono ?_
        rw [if_neg HOK.out]
        rintro e w9 ⟨rfl, l9⟩
        go_wp2
        go_ret
        exact ⟨by simp, below_later HW.out (below_later st8 l9)⟩
end Go.Proofs.Ytbanemaiiifcaaa

