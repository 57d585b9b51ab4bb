/- RunTells: the law's walk. -/
import Derived.Test.YteipihoebnmagaaN22
import Derived.Test.YteipihoebnmagaaN24
namespace Go.Proofs.Kit
open Go.RowKit
/-- A row of numbers as an argument. -/
def ArgU (w : World) (o : Option Addr) (c : Nat) (l : List Int) : Prop := (o = none ∧ l = [] ∧ c = 0) ∨ ∃ a, o = some a ∧ ∀ i (_ : i < l.length), w.cell? (a.add i) = some (.int .u64 l[i])
theorem ArgU.later {w w' : World} {o : Option Addr} {c : Nat} {l : List Int} (h : ArgU w o c l) (hb : Below w.heap.size w w') : ArgU w' o c l := by
  rcases h with h | ⟨a, h1, h2⟩
  · exact .inl h
  · exact .inr ⟨a, h1, fun i hi => (hb.cell (World.block_lt_of_cell? _ _ (h2 i hi))).trans (h2 i hi)⟩
theorem OwnP.first {t : TypeId} {B : Nat} {w : World} {o : Option Addr} {n c q : Nat} {l : List Pr} (h : OwnP t B w (.slice o n c) l) (hq : q < l.length) : ∃ g y, o = some ⟨g, 0, none⟩ ∧ l.length = n ∧ n ≤ c ∧ c ≤ 9223372036854775807 ∧ B ≤ g ∧ g < w.heap.size ∧ w.cell? ⟨g, q * 2, none⟩ = some (.int .u64 y) ∧ w.frozen? ⟨g, q * 2, none⟩ = false ∧ ∀ y', OwnP t B (w.setCell ⟨g, q * 2, none⟩ (.int .u64 y')) (.slice o n c) (l.set q (y', l[q].2)) := by
  obtain ⟨g, cap, cur, e, h1, h2, h3, hg, hb, h4⟩ := h.blk (by omega)
  injection e with e1 e2 e3
  subst e1 e3
  obtain ⟨hc, hf, hlt, _, hn⟩ := h.facts
  have d := (hc q hq).1
  rw [Nat.zero_add] at d
  exact ⟨g, l[q].1, rfl, hn, by omega, h2, hg, hlt, d, hf _, fun y' => h.storeAt (by simp) (flat_set1 l q hq y')⟩
end Go.Proofs.Kit
namespace Go.Proofs.Yteipihoebnmagaa
open Go.RowKit Go.Proofs.Kit
/-- Where a round of the law stands: two boxes, the row, what is known of it, and what lies between. -/
def TX (B : Nat) (w0 : World) (r : Nat) (x1 x2 y1 y2 : Int) (vl vk vg : Value) (L K G : List Pr) (w' : World) : Prop := B2 r (r + 1) x1 x2 y1 y2 w' ∧ SegP w' vl L ∧ SegP w' vk K ∧ OwnP 30 B w' vg G ∧ Below w0.heap.size w0 w'
section
variable {B : Nat} {w0 : World} {r : Nat} {x1 x2 y1 y2 : Int} {vl vk vg : Value} {L K G : List Pr} {w' w'' : World}
theorem TX.later (h : TX B w0 r x1 x2 y1 y2 vl vk vg L K G w') (hb : Below w'.heap.size w' w'') : TX B w0 r x1 x2 y1 y2 vl vk vg L K G w'' := ⟨h.1.later hb, h.2.1.later hb, h.2.2.1.later hb, h.2.2.2.1.later hb, below_later h.2.2.2.2 hb⟩
theorem TX.drew (h : TX B w0 r x1 x2 y1 y2 vl vk vg L K G w') : TX B w0 r x1 x2 y1 y2 vl vk vg L K G w'.drew := h.later (Below.refl _ _).drew
theorem TX.l (h : TX B w0 r x1 x2 y1 y2 vl vk vg L K G w') : SegP w' vl L := h.2.1
theorem TX.k (h : TX B w0 r x1 x2 y1 y2 vl vk vg L K G w') : SegP w' vk K := h.2.2.1
theorem TX.g (h : TX B w0 r x1 x2 y1 y2 vl vk vg L K G w') : OwnP 30 B w' vg G := h.2.2.2.1
theorem TX.low (h : TX B w0 r x1 x2 y1 y2 vl vk vg L K G w') : Below w0.heap.size w0 w' := h.2.2.2.2
theorem TX.all (h : TX B w0 r x1 x2 y1 y2 vl vk vg L K G w') : (w'.cell? ⟨r, 0, none⟩ = some (.int .u64 x1) ∧ w'.cell? ⟨r, 1, none⟩ = some (.int .u64 x2) ∧ w'.cell? ⟨r + 1, 0, none⟩ = some (.int .u64 y1) ∧ w'.cell? ⟨r + 1, 1, none⟩ = some (.int .u64 y2)) ∧ TX B w0 r x1 x2 y1 y2 vl vk vg L K G w' := ⟨h.1.cells, h⟩
end
set_option maxRecDepth 100000 in
set_option maxHeartbeats 16000000 in
theorem tells_true (ox : Option Addr) (nx cx : Nat) (X : List Pr) (oy : Option Addr) (ny cy : Nat) (Y : List Pr) (oz : Option Addr) (nz cz : Nat) (Z : List Int) (w : World)
    (hlx : X.length = nx) (hcx : nx ≤ cx) (hmx : cx ≤ 9223372036854775807) (hx : ArgP w ox cx X) (hnn : Nn X) (hly : Y.length = ny) (hcy : ny ≤ cy) (hmy : cy ≤ 9223372036854775807) (hy : ArgP w oy cy Y) (hlz : Z.length = nz) (hcz : nz ≤ cz) (hmz : cz ≤ 9223372036854775807) (hz : ArgU w oz cz Z) :
    Calls Try.prog 4 #[.slice ox nx cx, .slice oy ny cy, .slice oz nz cz] w fun e w' => e = .returned (.bool true) ∧ Below w.heap.size w w' := by
  have HLX := Lib.hid hlx
  have HLY := Lib.hid hly
  have HLZ := Lib.hid hlz
  have HX := Lib.hid hx
  have HY := Lib.hid hy
  have HZ := Lib.hid hz
  obtain ⟨L, hL⟩ : ∃ L, L = X.take 40 := ⟨_, rfl⟩
  obtain ⟨M, hM⟩ : ∃ M, M = Y.take 40 := ⟨_, rfl⟩
  have HNN := Lib.hid (show Nn L by rw [hL]; exact fun x hx => hnn x (List.mem_of_mem_take hx))
  have hL40 : L.length ≤ 40 := by rw [hL]; simp; omega
  have hM40 : M.length ≤ 40 := by rw [hM]; simp; omega
  have HL := Lib.hid hL
  have HM := Lib.hid hM
  clear hlx hly hlz hx hy hz hL hM hnn
  go_enter Try.func4, Try.ntmps4
  go_wp2_with fail
  refine (wakes_true _).mono ?_
  rintro e w1 ⟨rfl, B1⟩
  go_wp2_with fail
  refine (fewP_any ox nx cx X _ HLX.out hcx hmx (HX.out.later B1)).mono ?_
  rw [← HL.out]
  rintro e w2 ⟨vl, rfl, ol, b2⟩
  have B2 := below_later B1 b2
  have O2 := Lib.hid ol.seg
  obtain ⟨pl, cl, rfl⟩ := ol.shape
  clear ol b2 B1
  go_wp2_with fail
  refine (right_any _ L _ O2.out).mono ?_
  rintro e w3 ⟨rfl, g3⟩
  have B3 := below_later B2 g3.below
  have O3 := Lib.hid (O2.out.later g3.below)
  have hkn : (Hid (decide (okP L) = true) ∧ Hid (ckP L = 0) ∧ ∃ K, Hid (Kn L K) ∧ Hid (SegP w3 (.slice pl L.length cl) K)) ∨ (Hid (decide (okP L) = false) ∧ Hid (ckP L = 130) ∧ ∃ K, Hid (Kn L K) ∧ Hid (SegP w3 (.slice none 0 0) K)) := by
    by_cases h : okP L
    · exact .inl ⟨Lib.hid (by simpa using h), Lib.hid (ckP_yes h), L, Lib.hid (Kn.yes h), O3⟩
    · exact .inr ⟨Lib.hid (by simpa using h), Lib.hid (ckP_no h), [], Lib.hid (Kn.no h), Lib.hid (SegP.nil _)⟩
  clear g3 B2 O2
  rcases hkn with ⟨HD, HC, K, HK, SK⟩ | ⟨HD, HC, K, HK, SK⟩
  · rw [HD.out]
    go_wp2_with fail
    refine (fewP_any oy ny cy Y _ HLY.out hcy hmy (HY.out.later B3)).mono ?_
    rw [← HM.out]
    rintro e w4 ⟨vm, rfl, om, b4⟩
    have B4 := below_later B3 b4
    have OL := Lib.hid (O3.out.later b4)
    have SK4 := Lib.hid (SK.out.later b4)
    have OM := Lib.hid om.seg
    obtain ⟨pm, cm, rfl⟩ := om.shape
    obtain ⟨n, hn⟩ : ∃ n, n = M.length := ⟨_, rfl⟩
    rw [← hn] at OM hM40 ⊢
    have HN := Lib.hid hn
    have HK40 := Lib.hid (show K.length ≤ 1000 by have := HK.out.len; omega)
    have HB4 := Lib.hid B4
    clear om b4 B3 O3 SK hn B4
    go_wp2
    go_loopw [31] (fun i wr => ∃ k : Nat, k ≤ n ∧ k ≤ 10 ∧ i = .int .i64 (k : Int) ∧ Below w4.heap.size w4 wr) (fun i _ => n - (intOf i).toNat)
    case atStart => exact ⟨0, by omega, by omega, rfl, Below.refl _ _⟩
    case round =>
      obtain ⟨k, hk, hk10, rfl, hB⟩ := hrel
      have hthree : (k < n ∧ k < 10) ∨ ((k < n ∧ k = 10) ∨ k = n) := by omega
      rcases hthree with ⟨hlt, h10⟩ | hex
      · have hkl : k < M.length := by have := HN.out; omega
        obtain ⟨b, f, rfl, hb, hcells⟩ := (OM.out.later hB).has hkl
        obtain ⟨d1, d2⟩ := hcells k hkl
        obtain ⟨j, hj⟩ : ∃ j, j = (k + 1) % n := ⟨_, rfl⟩
        have hjn : j < n := by rw [hj]; exact Nat.mod_lt _ (by omega)
        have hmod : ((k : Int) + 1).tmod (n : Int) = (j : Int) := by rw [hj]; rfl
        obtain ⟨d3, d4⟩ := hcells j (by have := HN.out; omega)
        obtain ⟨x, hx⟩ : ∃ x, x = M[k] := ⟨_, rfl⟩
        obtain ⟨y, hy⟩ : ∃ y, y = M[j]'(by have := HN.out; omega) := ⟨_, rfl⟩
        rw [← hx] at d1 d2
        rw [← hy] at d3 d4
        clear hx hy hcells hj
        obtain ⟨x1, x2⟩ := x
        obtain ⟨y1, y2⟩ := y
        simp only at d1 d2 d3 d4
        have t10 : ((k : Int) == 10) = false := by simp; omega
        have tn0 : ((n : Int) == 0) = false := by simp; omega
        go_wp2_with fail
        obtain ⟨wi, hwi⟩ : ∃ wi, wi = (wr.alloc (.cells #[.int .u64 x1, .int .u64 x2] 30)).alloc (.cells #[.int .u64 y1, .int .u64 y2] 30) := ⟨_, rfl⟩
        have bb : B2 wr.heap.size (wr.heap.size + 1) x1 x2 y1 y2 wi := by
          rw [hwi]
          refine ⟨(Blk.new _ _ _).alloc _, ?_⟩
          have := Blk.new (wr.alloc (.cells #[.int .u64 x1, .int .u64 x2] 30)) #[.int .u64 y1, .int .u64 y2] 30
          simpa using this
        have bi : Below w4.heap.size w4 wi := by rw [hwi]; exact (hB.alloc hB.size _).alloc (Nat.le_trans hB.size (by simp)) _
        obtain ⟨r, hr⟩ : ∃ r, r = wr.heap.size := ⟨_, rfl⟩
        rw [← hwi]
        rw [← hr] at bb ⊢
        clear hwi hr d1 d2 d3 d4 hmod tn0 t10
        refine (between_any _ L _ (OL.out.later bi) x1 x2 y1 y2).mono ?_
        rw [HK.out.betw]
        rintro e w5 ⟨vg, rfl, og, b5⟩
        obtain ⟨G, hG⟩ : ∃ G, G = K.filter fun x => !decide (lt2 x (x1, x2)) && decide (lt2 x (y1, y2)) := ⟨_, rfl⟩
        rw [← hG] at og
        have HG := Lib.hid hG
        have hg40 : G.length ≤ 1000 := by rw [hG]; exact Nat.le_trans (List.length_filter_le _ _) HK40.out
        obtain ⟨pg, cg, rfl⟩ := og.shape
        have hws : TX wi.heap.size w4 r x1 x2 y1 y2 (.slice pl L.length cl) (.slice pl L.length cl) (.slice pg G.length cg) L K G w5 := ⟨bb.later b5, (OL.out.later bi).later b5, (SK4.out.later bi).later b5, og, below_later bi b5⟩
        obtain ⟨t, ht⟩ : ∃ t, decide ((x1, x2) ∈ K) = t := ⟨_, rfl⟩
        have HT2 := Lib.hid ht
        have HT := Lib.hid (show hasP L (x1, x2) = t by rw [HK.out.has]; exact ht)
        obtain ⟨⟨c0, c1, c2, c3⟩, _⟩ := hws.all
        have HBI := Lib.hid bi
        clear hG og b5 ht bb bi
        cases t
        all_goals
          go_wp2_with fail
          go_region_held3 (fun w' => (w'.cell? ⟨r, 0, none⟩ = some (.int .u64 x1) ∧ w'.cell? ⟨r, 1, none⟩ = some (.int .u64 x2) ∧ w'.cell? ⟨r + 1, 0, none⟩ = some (.int .u64 y1) ∧ w'.cell? ⟨r + 1, 1, none⟩ = some (.int .u64 y2)) ∧ TX wi.heap.size w4 r x1 x2 y1 y2 (.slice pl L.length cl) (.slice pl L.length cl) (.slice pg G.length cg) L K G w') (first | exact hws.all | exact hws.drew.all) (first | (go_at_call 19; (with_reducible refine (has_is _ L _ (by first | exact hws.l | exact hws.drew.l) x1 x2 _ HT.out).mono ?_); rintro e wp ⟨rfl, gp⟩; have hws : TX wi.heap.size w4 r x1 x2 y1 y2 (.slice pl L.length cl) (.slice pl L.length cl) (.slice pg G.length cg) L K G wp := (by first | exact hws.later gp.below | exact hws.drew.later gp.below)) | (go_at_call 20; (with_reducible refine (dhas_is _ K _ (by first | exact hws.k | exact hws.drew.k) x1 x2 _ HT2.out).mono ?_); rintro e wp ⟨rfl, gp⟩; have hws : TX wi.heap.size w4 r x1 x2 y1 y2 (.slice pl L.length cl) (.slice pl L.length cl) (.slice pg G.length cg) L K G wp := (by first | exact hws.later gp.below | exact hws.drew.later gp.below)) | (go_at_call 21; (with_reducible refine (dbetw_any _ K _ (by first | exact hws.k | exact hws.drew.k) HK40.out x1 x2 y1 y2).mono ?_); rw [← HG.out]; rintro e wd ⟨vd, rfl, od, bd⟩; have sd := od.seg; have hws : TX wi.heap.size w4 r x1 x2 y1 y2 (.slice pl L.length cl) (.slice pl L.length cl) (.slice pg G.length cg) L K G wd := (by first | exact hws.later bd | exact hws.drew.later bd)) | (go_at_call 15; (with_reducible refine (equalP_seg _ _ G G _ (by first | exact hws.g.seg | exact hws.drew.g.seg) (by first | exact sd | exact sd.drew)).mono ?_); rw [show decide (G = G) = true from by simp]; rintro e wp ⟨rfl, gp⟩; have hws : TX wi.heap.size w4 r x1 x2 y1 y2 (.slice pl L.length cl) (.slice pl L.length cl) (.slice pg G.length cg) L K G wp := (by first | exact hws.later gp.below | exact hws.drew.later gp.below)))
          have hlow := hws.low
          have hgo := hws.g
          have hbi := HBI.out.size
          obtain ⟨ng, hng⟩ : ∃ m, m = G.length := ⟨_, rfl⟩
          rw [← hng] at hg40 hgo ⊢
          have HGO := Lib.hid (show ∃ G' : List Pr, G'.length = ng ∧ OwnP 30 wi.heap.size wp (.slice pg ng cg) G' from ⟨G, hng.symm, hgo⟩)
          clear hgo hws hng
          go_wp2
          go_loopw [68] (fun i wq => ∃ q : Nat, q ≤ ng ∧ i = .int .i64 (q : Int) ∧ Hid (∃ G' : List Pr, G'.length = ng ∧ OwnP 30 wi.heap.size wq (.slice pg ng cg) G') ∧ Below w4.heap.size w4 wq) (fun i _ => ng - (intOf i).toNat)
          case atStart => exact ⟨0, by omega, rfl, HGO, hlow⟩
          case round =>
            obtain ⟨q, hq, rfl, HGQ, hBq⟩ := hrel
            by_cases hlq : q < ng
            · obtain ⟨G', hl', ho'⟩ := HGQ.out
              obtain ⟨g, yv, hp, _, kc, kc2, kb, kg, kd, kf, kT⟩ := ho'.first (q := q) (by omega)
              have HGN := Lib.hid (fun y' => (⟨_, by simpa using hl', kT y'⟩ : ∃ G2 : List Pr, G2.length = ng ∧ OwnP 30 wi.heap.size (wr.setCell ⟨g, q * 2, none⟩ (.int .u64 y')) (.slice pg ng cg) G2))
              subst hp
              clear kT ho' hl'
              go_wp2
              go_roundw
              case rel => exact ⟨q + 1, by omega, by go_num, Lib.hid (HGN.out _), hBq.setCell (Nat.le_trans hbi kb) _⟩
              case measure => simp [intOf]; omega
            · go_wp2
              go_roundw
              case rel => exact ⟨k + 1, by omega, by omega, by go_num, hBq⟩
              case measure => simp [intOf]; omega
      · rcases hex with ⟨hlt, hk'⟩ | hk'
        · have hkl : k < M.length := by have := HN.out; omega
          obtain ⟨b, f, rfl, hb, hcells⟩ := (OM.out.later hB).has hkl
          obtain ⟨d1, d2⟩ := hcells k hkl
          obtain ⟨x, hx⟩ : ∃ x, x = M[k] := ⟨_, rfl⟩
          rw [← hx] at d1 d2
          clear hx hcells
          obtain ⟨x1, x2⟩ := x
          simp only at d1 d2
          have t10 : ((k : Int) == 10) = true := by simp; omega
          clear hk'
          go_wp2
          obtain ⟨wz, hwz⟩ : ∃ wz, wz = wr.alloc (.cells #[.int .u64 x1, .int .u64 x2] 30) := ⟨_, rfl⟩
          have BZ : Below w4.heap.size w4 wz := by rw [hwz]; exact hB.alloc hB.size _
          rw [← hwz]
          clear hwz d1 d2
          have SLz := Lib.hid (OL.out.later BZ)
          have SKz := Lib.hid (SK4.out.later BZ)
          have HBW := Lib.hid (below_later HB4.out BZ)
          clear BZ hB
          go_loopw [83] (fun i wq => ∃ q : Nat, q ≤ nz ∧ i = .int .i64 (q : Int) ∧ Below wz.heap.size wz wq) (fun i _ => nz - (intOf i).toNat)
          case atStart => exact ⟨0, by omega, rfl, Below.refl _ _⟩
          case round =>
            obtain ⟨q, hq, rfl, hC⟩ := hrel
            by_cases hlq : q < nz
            · have hql : q < Z.length := by have := HLZ.out; omega
              obtain ⟨a, ha, hcz'⟩ := (HZ.out.later (below_later HBW.out hC)).resolve_left (fun h => by rw [h.2.1] at hql; simp at hql)
              have dz := hcz' q hql
              obtain ⟨z, hz⟩ : ∃ z, z = Z[q] := ⟨_, rfl⟩
              rw [← hz] at dz
              subst ha
              clear hz hcz'
              by_cases h10 : q < 10
              · have t1 : decide ((q : Int) < 10) = true := by simp; omega
                go_wp2_with fail
                refine (seconds_any _ L _ (SLz.out.later hC) HNN.out z).mono ?_
                rw [HK.out.secs]
                obtain ⟨S, hS⟩ : ∃ S, S = (K.filter fun x => decide (x.1 = z)).map (·.2) := ⟨_, rfl⟩
                rw [← hS]
                have HS := Lib.hid hS
                rintro e w6 ⟨v6, rfl, o6, b6⟩
                have C6 := below_later hC b6
                have O6 := Lib.hid o6
                clear o6 b6 dz hS
                go_wp2_with fail
                refine (dsecs_any _ K _ (SKz.out.later C6) HK40.out z).mono ?_
                rw [← HS.out]
                rintro e w7 ⟨v7, rfl, o7, b7⟩
                have C7 := below_later C6 b7
                have O67 := Lib.hid (O6.out.later b7).seg
                have O7 := Lib.hid o7.seg
                clear o7 b7 C6 O6
                go_wp2_with fail
                refine (equalu_seg _ _ S S _ O67.out O7.out).mono ?_
                rw [show decide (S = S) = true from by simp]
                rintro e w8 ⟨rfl, b8⟩
                have C8 := below_later C7 b8
                clear b8 C7 O67 O7
                go_wp2
                go_roundw
                case rel => exact ⟨q + 1, by omega, by go_num, C8⟩
                case measure => simp [intOf]; omega
              · have t1 : decide ((q : Int) < 10) = false := by simp; omega
                go_wp2
                go_roundw
                case rel => exact ⟨q + 1, by omega, by go_num, hC⟩
                case measure => simp [intOf]; omega
            · have D0 := below_later HBW.out hC
              have OLy := Lib.hid (SLz.out.later hC)
              have OKy := Lib.hid (SKz.out.later hC)
              clear hC
              go_wp2_with fail
              refine (turn_any _ L _ OLy.out).mono ?_
              rw [HC.out, HK.out.turn]
              obtain ⟨T, hT⟩ : ∃ T, T = ofP (K.map swapP) := ⟨_, rfl⟩
              rw [← hT]
              have HT := Lib.hid hT
              rintro e w9 ⟨v9, rfl, o9, b9⟩
              have D9 := below_later D0 b9
              have OL9 := Lib.hid (OLy.out.later b9)
              have OK9 := Lib.hid (OKy.out.later b9)
              have O9 := Lib.hid o9.seg
              clear o9 b9 hT OLy OKy
              go_wp2_with fail
              refine (dturn_any _ K _ OK9.out HK40.out).mono ?_
              rw [← HT.out]
              rintro e w10 ⟨v10, rfl, o10, b10⟩
              have D10 := below_later D9 b10
              have OL10 := Lib.hid (OL9.out.later b10)
              have OK10 := Lib.hid (OK9.out.later b10)
              have O9' := Lib.hid (O9.out.later b10)
              have O10 := Lib.hid o10.seg
              clear o10 b10 OL9 OK9 O9
              go_wp2_with fail
              refine (equalP_seg _ _ T T _ O9'.out O10.out).mono ?_
              rw [show decide (T = T) = true from by simp]
              rintro e w11 ⟨rfl, g11⟩
              have D11 := below_later D10 g11.below
              have OL11 := Lib.hid (OL10.out.later g11.below)
              have OK11 := Lib.hid (OK10.out.later g11.below)
              clear g11 OL10 OK10 O9' O10
              go_wp2_with fail
              refine (firsts_any _ L _ OL11.out).mono ?_
              rw [HK.out.firsts]
              obtain ⟨F, hF⟩ : ∃ F, F = dd (K.map (·.1)) := ⟨_, rfl⟩
              rw [← hF]
              have HF := Lib.hid hF
              rintro e w12 ⟨v12, rfl, o12, b12⟩
              have D12 := below_later D11 b12
              have OL12 := Lib.hid (OL11.out.later b12)
              have OK12 := Lib.hid (OK11.out.later b12)
              have O12 := Lib.hid o12
              clear o12 b12 hF OL11 OK11
              go_wp2_with fail
              refine (dfirsts_any _ K _ OK12.out HK40.out).mono ?_
              rw [← HF.out]
              rintro e w13 ⟨v13, rfl, o13, b13⟩
              have D13 := below_later D12 b13
              have OL13 := Lib.hid (OL12.out.later b13)
              have O12' := Lib.hid (O12.out.later b13).seg
              have O13 := Lib.hid o13.seg
              clear o13 b13 OL12 OK12 O12
              go_wp2_with fail
              refine (equalu_seg _ _ F F _ O12'.out O13.out).mono ?_
              rw [show decide (F = F) = true from by simp]
              rintro e w14 ⟨rfl, b14⟩
              have D14 := below_later D13 b14
              have OL14 := Lib.hid (OL13.out.later b14)
              clear b14 OL13 O12' O13
              go_wp2_with fail
              refine (fewP_any ox nx cx X _ HLX.out hcx hmx (HX.out.later D14)).mono ?_
              rw [← HL.out]
              rintro e w15 ⟨v15, rfl, o15, b15⟩
              have D15 := below_later D14 b15
              have OL15 := Lib.hid (OL14.out.later b15)
              have O15 := Lib.hid o15.seg
              clear o15 b15 OL14
              go_wp2_with fail
              refine (equalP_seg _ _ L L _ OL15.out O15.out).mono ?_
              rw [show decide (L = L) = true from by simp]
              rintro e w16 ⟨rfl, g16⟩
              have D16 := below_later D15 g16.below
              clear g16
              go_wp2
              go_ret
              exact ⟨rfl, D16⟩
        · have hnl : ¬ k < n := by omega
          obtain ⟨wz, hwz⟩ : ∃ wz, wz = wr := ⟨_, rfl⟩
          rw [← hwz] at hB ⊢
          have BZ := hB
          clear hwz hk'
          go_wp2
          have SLz := Lib.hid (OL.out.later BZ)
          have SKz := Lib.hid (SK4.out.later BZ)
          have HBW := Lib.hid (below_later HB4.out BZ)
          clear BZ hB
          go_loopw [83] (fun i wq => ∃ q : Nat, q ≤ nz ∧ i = .int .i64 (q : Int) ∧ Below wz.heap.size wz wq) (fun i _ => nz - (intOf i).toNat)
          case atStart => exact ⟨0, by omega, rfl, Below.refl _ _⟩
          case round =>
            obtain ⟨q, hq, rfl, hC⟩ := hrel
            by_cases hlq : q < nz
            · have hql : q < Z.length := by have := HLZ.out; omega
              obtain ⟨a, ha, hcz'⟩ := (HZ.out.later (below_later HBW.out hC)).resolve_left (fun h => by rw [h.2.1] at hql; simp at hql)
              have dz := hcz' q hql
              obtain ⟨z, hz⟩ : ∃ z, z = Z[q] := ⟨_, rfl⟩
              rw [← hz] at dz
              subst ha
              clear hz hcz'
              by_cases h10 : q < 10
              · have t1 : decide ((q : Int) < 10) = true := by simp; omega
                go_wp2_with fail
                refine (seconds_any _ L _ (SLz.out.later hC) HNN.out z).mono ?_
                rw [HK.out.secs]
                obtain ⟨S, hS⟩ : ∃ S, S = (K.filter fun x => decide (x.1 = z)).map (·.2) := ⟨_, rfl⟩
                rw [← hS]
                have HS := Lib.hid hS
                rintro e w6 ⟨v6, rfl, o6, b6⟩
                have C6 := below_later hC b6
                have O6 := Lib.hid o6
                clear o6 b6 dz hS
                go_wp2_with fail
                refine (dsecs_any _ K _ (SKz.out.later C6) HK40.out z).mono ?_
                rw [← HS.out]
                rintro e w7 ⟨v7, rfl, o7, b7⟩
                have C7 := below_later C6 b7
                have O67 := Lib.hid (O6.out.later b7).seg
                have O7 := Lib.hid o7.seg
                clear o7 b7 C6 O6
                go_wp2_with fail
                refine (equalu_seg _ _ S S _ O67.out O7.out).mono ?_
                rw [show decide (S = S) = true from by simp]
                rintro e w8 ⟨rfl, b8⟩
                have C8 := below_later C7 b8
                clear b8 C7 O67 O7
                go_wp2
                go_roundw
                case rel => exact ⟨q + 1, by omega, by go_num, C8⟩
                case measure => simp [intOf]; omega
              · have t1 : decide ((q : Int) < 10) = false := by simp; omega
                go_wp2
                go_roundw
                case rel => exact ⟨q + 1, by omega, by go_num, hC⟩
                case measure => simp [intOf]; omega
            · have D0 := below_later HBW.out hC
              have OLy := Lib.hid (SLz.out.later hC)
              have OKy := Lib.hid (SKz.out.later hC)
              clear hC
              go_wp2_with fail
              refine (turn_any _ L _ OLy.out).mono ?_
              rw [HC.out, HK.out.turn]
              obtain ⟨T, hT⟩ : ∃ T, T = ofP (K.map swapP) := ⟨_, rfl⟩
              rw [← hT]
              have HT := Lib.hid hT
              rintro e w9 ⟨v9, rfl, o9, b9⟩
              have D9 := below_later D0 b9
              have OL9 := Lib.hid (OLy.out.later b9)
              have OK9 := Lib.hid (OKy.out.later b9)
              have O9 := Lib.hid o9.seg
              clear o9 b9 hT OLy OKy
              go_wp2_with fail
              refine (dturn_any _ K _ OK9.out HK40.out).mono ?_
              rw [← HT.out]
              rintro e w10 ⟨v10, rfl, o10, b10⟩
              have D10 := below_later D9 b10
              have OL10 := Lib.hid (OL9.out.later b10)
              have OK10 := Lib.hid (OK9.out.later b10)
              have O9' := Lib.hid (O9.out.later b10)
              have O10 := Lib.hid o10.seg
              clear o10 b10 OL9 OK9 O9
              go_wp2_with fail
              refine (equalP_seg _ _ T T _ O9'.out O10.out).mono ?_
              rw [show decide (T = T) = true from by simp]
              rintro e w11 ⟨rfl, g11⟩
              have D11 := below_later D10 g11.below
              have OL11 := Lib.hid (OL10.out.later g11.below)
              have OK11 := Lib.hid (OK10.out.later g11.below)
              clear g11 OL10 OK10 O9' O10
              go_wp2_with fail
              refine (firsts_any _ L _ OL11.out).mono ?_
              rw [HK.out.firsts]
              obtain ⟨F, hF⟩ : ∃ F, F = dd (K.map (·.1)) := ⟨_, rfl⟩
              rw [← hF]
              have HF := Lib.hid hF
              rintro e w12 ⟨v12, rfl, o12, b12⟩
              have D12 := below_later D11 b12
              have OL12 := Lib.hid (OL11.out.later b12)
              have OK12 := Lib.hid (OK11.out.later b12)
              have O12 := Lib.hid o12
              clear o12 b12 hF OL11 OK11
              go_wp2_with fail
              refine (dfirsts_any _ K _ OK12.out HK40.out).mono ?_
              rw [← HF.out]
              rintro e w13 ⟨v13, rfl, o13, b13⟩
              have D13 := below_later D12 b13
              have OL13 := Lib.hid (OL12.out.later b13)
              have O12' := Lib.hid (O12.out.later b13).seg
              have O13 := Lib.hid o13.seg
              clear o13 b13 OL12 OK12 O12
              go_wp2_with fail
              refine (equalu_seg _ _ F F _ O12'.out O13.out).mono ?_
              rw [show decide (F = F) = true from by simp]
              rintro e w14 ⟨rfl, b14⟩
              have D14 := below_later D13 b14
              have OL14 := Lib.hid (OL13.out.later b14)
              clear b14 OL13 O12' O13
              go_wp2_with fail
              refine (fewP_any ox nx cx X _ HLX.out hcx hmx (HX.out.later D14)).mono ?_
              rw [← HL.out]
              rintro e w15 ⟨v15, rfl, o15, b15⟩
              have D15 := below_later D14 b15
              have OL15 := Lib.hid (OL14.out.later b15)
              have O15 := Lib.hid o15.seg
              clear o15 b15 OL14
              go_wp2_with fail
              refine (equalP_seg _ _ L L _ OL15.out O15.out).mono ?_
              rw [show decide (L = L) = true from by simp]
              rintro e w16 ⟨rfl, g16⟩
              have D16 := below_later D15 g16.below
              clear g16
              go_wp2
              go_ret
              exact ⟨rfl, D16⟩
  · rw [HD.out]
    go_wp2_with fail
    refine (fewP_any oy ny cy Y _ HLY.out hcy hmy (HY.out.later B3)).mono ?_
    rw [← HM.out]
    rintro e w4 ⟨vm, rfl, om, b4⟩
    have B4 := below_later B3 b4
    have OL := Lib.hid (O3.out.later b4)
    have SK4 := Lib.hid (SK.out.later b4)
    have OM := Lib.hid om.seg
    obtain ⟨pm, cm, rfl⟩ := om.shape
    obtain ⟨n, hn⟩ : ∃ n, n = M.length := ⟨_, rfl⟩
    rw [← hn] at OM hM40 ⊢
    have HN := Lib.hid hn
    have HK40 := Lib.hid (show K.length ≤ 1000 by have := HK.out.len; omega)
    have HB4 := Lib.hid B4
    clear om b4 B3 O3 SK hn B4
    go_wp2
    go_loopw [31] (fun i wr => ∃ k : Nat, k ≤ n ∧ k ≤ 10 ∧ i = .int .i64 (k : Int) ∧ Below w4.heap.size w4 wr) (fun i _ => n - (intOf i).toNat)
    case atStart => exact ⟨0, by omega, by omega, rfl, Below.refl _ _⟩
    case round =>
      obtain ⟨k, hk, hk10, rfl, hB⟩ := hrel
      have hthree : (k < n ∧ k < 10) ∨ ((k < n ∧ k = 10) ∨ k = n) := by omega
      rcases hthree with ⟨hlt, h10⟩ | hex
      · have hkl : k < M.length := by have := HN.out; omega
        obtain ⟨b, f, rfl, hb, hcells⟩ := (OM.out.later hB).has hkl
        obtain ⟨d1, d2⟩ := hcells k hkl
        obtain ⟨j, hj⟩ : ∃ j, j = (k + 1) % n := ⟨_, rfl⟩
        have hjn : j < n := by rw [hj]; exact Nat.mod_lt _ (by omega)
        have hmod : ((k : Int) + 1).tmod (n : Int) = (j : Int) := by rw [hj]; rfl
        obtain ⟨d3, d4⟩ := hcells j (by have := HN.out; omega)
        obtain ⟨x, hx⟩ : ∃ x, x = M[k] := ⟨_, rfl⟩
        obtain ⟨y, hy⟩ : ∃ y, y = M[j]'(by have := HN.out; omega) := ⟨_, rfl⟩
        rw [← hx] at d1 d2
        rw [← hy] at d3 d4
        clear hx hy hcells hj
        obtain ⟨x1, x2⟩ := x
        obtain ⟨y1, y2⟩ := y
        simp only at d1 d2 d3 d4
        have t10 : ((k : Int) == 10) = false := by simp; omega
        have tn0 : ((n : Int) == 0) = false := by simp; omega
        go_wp2_with fail
        obtain ⟨wi, hwi⟩ : ∃ wi, wi = (wr.alloc (.cells #[.int .u64 x1, .int .u64 x2] 30)).alloc (.cells #[.int .u64 y1, .int .u64 y2] 30) := ⟨_, rfl⟩
        have bb : B2 wr.heap.size (wr.heap.size + 1) x1 x2 y1 y2 wi := by
          rw [hwi]
          refine ⟨(Blk.new _ _ _).alloc _, ?_⟩
          have := Blk.new (wr.alloc (.cells #[.int .u64 x1, .int .u64 x2] 30)) #[.int .u64 y1, .int .u64 y2] 30
          simpa using this
        have bi : Below w4.heap.size w4 wi := by rw [hwi]; exact (hB.alloc hB.size _).alloc (Nat.le_trans hB.size (by simp)) _
        obtain ⟨r, hr⟩ : ∃ r, r = wr.heap.size := ⟨_, rfl⟩
        rw [← hwi]
        rw [← hr] at bb ⊢
        clear hwi hr d1 d2 d3 d4 hmod tn0 t10
        refine (between_any _ L _ (OL.out.later bi) x1 x2 y1 y2).mono ?_
        rw [HK.out.betw]
        rintro e w5 ⟨vg, rfl, og, b5⟩
        obtain ⟨G, hG⟩ : ∃ G, G = K.filter fun x => !decide (lt2 x (x1, x2)) && decide (lt2 x (y1, y2)) := ⟨_, rfl⟩
        rw [← hG] at og
        have HG := Lib.hid hG
        have hg40 : G.length ≤ 1000 := by rw [hG]; exact Nat.le_trans (List.length_filter_le _ _) HK40.out
        obtain ⟨pg, cg, rfl⟩ := og.shape
        have hws : TX wi.heap.size w4 r x1 x2 y1 y2 (.slice pl L.length cl) (.slice none 0 0) (.slice pg G.length cg) L K G w5 := ⟨bb.later b5, (OL.out.later bi).later b5, (SK4.out.later bi).later b5, og, below_later bi b5⟩
        obtain ⟨t, ht⟩ : ∃ t, decide ((x1, x2) ∈ K) = t := ⟨_, rfl⟩
        have HT2 := Lib.hid ht
        have HT := Lib.hid (show hasP L (x1, x2) = t by rw [HK.out.has]; exact ht)
        obtain ⟨⟨c0, c1, c2, c3⟩, _⟩ := hws.all
        have HBI := Lib.hid bi
        clear hG og b5 ht bb bi
        cases t
        all_goals
          go_wp2_with fail
          go_region_held3 (fun w' => (w'.cell? ⟨r, 0, none⟩ = some (.int .u64 x1) ∧ w'.cell? ⟨r, 1, none⟩ = some (.int .u64 x2) ∧ w'.cell? ⟨r + 1, 0, none⟩ = some (.int .u64 y1) ∧ w'.cell? ⟨r + 1, 1, none⟩ = some (.int .u64 y2)) ∧ TX wi.heap.size w4 r x1 x2 y1 y2 (.slice pl L.length cl) (.slice none 0 0) (.slice pg G.length cg) L K G w') (first | exact hws.all | exact hws.drew.all) (first | (go_at_call 19; (with_reducible refine (has_is _ L _ (by first | exact hws.l | exact hws.drew.l) x1 x2 _ HT.out).mono ?_); rintro e wp ⟨rfl, gp⟩; have hws : TX wi.heap.size w4 r x1 x2 y1 y2 (.slice pl L.length cl) (.slice none 0 0) (.slice pg G.length cg) L K G wp := (by first | exact hws.later gp.below | exact hws.drew.later gp.below)) | (go_at_call 20; (with_reducible refine (dhas_is _ K _ (by first | exact hws.k | exact hws.drew.k) x1 x2 _ HT2.out).mono ?_); rintro e wp ⟨rfl, gp⟩; have hws : TX wi.heap.size w4 r x1 x2 y1 y2 (.slice pl L.length cl) (.slice none 0 0) (.slice pg G.length cg) L K G wp := (by first | exact hws.later gp.below | exact hws.drew.later gp.below)) | (go_at_call 21; (with_reducible refine (dbetw_any _ K _ (by first | exact hws.k | exact hws.drew.k) HK40.out x1 x2 y1 y2).mono ?_); rw [← HG.out]; rintro e wd ⟨vd, rfl, od, bd⟩; have sd := od.seg; have hws : TX wi.heap.size w4 r x1 x2 y1 y2 (.slice pl L.length cl) (.slice none 0 0) (.slice pg G.length cg) L K G wd := (by first | exact hws.later bd | exact hws.drew.later bd)) | (go_at_call 15; (with_reducible refine (equalP_seg _ _ G G _ (by first | exact hws.g.seg | exact hws.drew.g.seg) (by first | exact sd | exact sd.drew)).mono ?_); rw [show decide (G = G) = true from by simp]; rintro e wp ⟨rfl, gp⟩; have hws : TX wi.heap.size w4 r x1 x2 y1 y2 (.slice pl L.length cl) (.slice none 0 0) (.slice pg G.length cg) L K G wp := (by first | exact hws.later gp.below | exact hws.drew.later gp.below)))
          have hlow := hws.low
          have hgo := hws.g
          have hbi := HBI.out.size
          obtain ⟨ng, hng⟩ : ∃ m, m = G.length := ⟨_, rfl⟩
          rw [← hng] at hg40 hgo ⊢
          have HGO := Lib.hid (show ∃ G' : List Pr, G'.length = ng ∧ OwnP 30 wi.heap.size wp (.slice pg ng cg) G' from ⟨G, hng.symm, hgo⟩)
          clear hgo hws hng
          go_wp2
          go_loopw [68] (fun i wq => ∃ q : Nat, q ≤ ng ∧ i = .int .i64 (q : Int) ∧ Hid (∃ G' : List Pr, G'.length = ng ∧ OwnP 30 wi.heap.size wq (.slice pg ng cg) G') ∧ Below w4.heap.size w4 wq) (fun i _ => ng - (intOf i).toNat)
          case atStart => exact ⟨0, by omega, rfl, HGO, hlow⟩
          case round =>
            obtain ⟨q, hq, rfl, HGQ, hBq⟩ := hrel
            by_cases hlq : q < ng
            · obtain ⟨G', hl', ho'⟩ := HGQ.out
              obtain ⟨g, yv, hp, _, kc, kc2, kb, kg, kd, kf, kT⟩ := ho'.first (q := q) (by omega)
              have HGN := Lib.hid (fun y' => (⟨_, by simpa using hl', kT y'⟩ : ∃ G2 : List Pr, G2.length = ng ∧ OwnP 30 wi.heap.size (wr.setCell ⟨g, q * 2, none⟩ (.int .u64 y')) (.slice pg ng cg) G2))
              subst hp
              clear kT ho' hl'
              go_wp2
              go_roundw
              case rel => exact ⟨q + 1, by omega, by go_num, Lib.hid (HGN.out _), hBq.setCell (Nat.le_trans hbi kb) _⟩
              case measure => simp [intOf]; omega
            · go_wp2
              go_roundw
              case rel => exact ⟨k + 1, by omega, by omega, by go_num, hBq⟩
              case measure => simp [intOf]; omega
      · rcases hex with ⟨hlt, hk'⟩ | hk'
        · have hkl : k < M.length := by have := HN.out; omega
          obtain ⟨b, f, rfl, hb, hcells⟩ := (OM.out.later hB).has hkl
          obtain ⟨d1, d2⟩ := hcells k hkl
          obtain ⟨x, hx⟩ : ∃ x, x = M[k] := ⟨_, rfl⟩
          rw [← hx] at d1 d2
          clear hx hcells
          obtain ⟨x1, x2⟩ := x
          simp only at d1 d2
          have t10 : ((k : Int) == 10) = true := by simp; omega
          clear hk'
          go_wp2
          obtain ⟨wz, hwz⟩ : ∃ wz, wz = wr.alloc (.cells #[.int .u64 x1, .int .u64 x2] 30) := ⟨_, rfl⟩
          have BZ : Below w4.heap.size w4 wz := by rw [hwz]; exact hB.alloc hB.size _
          rw [← hwz]
          clear hwz d1 d2
          have SLz := Lib.hid (OL.out.later BZ)
          have SKz := Lib.hid (SK4.out.later BZ)
          have HBW := Lib.hid (below_later HB4.out BZ)
          clear BZ hB
          go_loopw [83] (fun i wq => ∃ q : Nat, q ≤ nz ∧ i = .int .i64 (q : Int) ∧ Below wz.heap.size wz wq) (fun i _ => nz - (intOf i).toNat)
          case atStart => exact ⟨0, by omega, rfl, Below.refl _ _⟩
          case round =>
            obtain ⟨q, hq, rfl, hC⟩ := hrel
            by_cases hlq : q < nz
            · have hql : q < Z.length := by have := HLZ.out; omega
              obtain ⟨a, ha, hcz'⟩ := (HZ.out.later (below_later HBW.out hC)).resolve_left (fun h => by rw [h.2.1] at hql; simp at hql)
              have dz := hcz' q hql
              obtain ⟨z, hz⟩ : ∃ z, z = Z[q] := ⟨_, rfl⟩
              rw [← hz] at dz
              subst ha
              clear hz hcz'
              by_cases h10 : q < 10
              · have t1 : decide ((q : Int) < 10) = true := by simp; omega
                go_wp2_with fail
                refine (seconds_any _ L _ (SLz.out.later hC) HNN.out z).mono ?_
                rw [HK.out.secs]
                obtain ⟨S, hS⟩ : ∃ S, S = (K.filter fun x => decide (x.1 = z)).map (·.2) := ⟨_, rfl⟩
                rw [← hS]
                have HS := Lib.hid hS
                rintro e w6 ⟨v6, rfl, o6, b6⟩
                have C6 := below_later hC b6
                have O6 := Lib.hid o6
                clear o6 b6 dz hS
                go_wp2_with fail
                refine (dsecs_any _ K _ (SKz.out.later C6) HK40.out z).mono ?_
                rw [← HS.out]
                rintro e w7 ⟨v7, rfl, o7, b7⟩
                have C7 := below_later C6 b7
                have O67 := Lib.hid (O6.out.later b7).seg
                have O7 := Lib.hid o7.seg
                clear o7 b7 C6 O6
                go_wp2_with fail
                refine (equalu_seg _ _ S S _ O67.out O7.out).mono ?_
                rw [show decide (S = S) = true from by simp]
                rintro e w8 ⟨rfl, b8⟩
                have C8 := below_later C7 b8
                clear b8 C7 O67 O7
                go_wp2
                go_roundw
                case rel => exact ⟨q + 1, by omega, by go_num, C8⟩
                case measure => simp [intOf]; omega
              · have t1 : decide ((q : Int) < 10) = false := by simp; omega
                go_wp2
                go_roundw
                case rel => exact ⟨q + 1, by omega, by go_num, hC⟩
                case measure => simp [intOf]; omega
            · have D0 := below_later HBW.out hC
              have OLy := Lib.hid (SLz.out.later hC)
              have OKy := Lib.hid (SKz.out.later hC)
              clear hC
              go_wp2_with fail
              refine (turn_any _ L _ OLy.out).mono ?_
              rw [HC.out, HK.out.turn]
              obtain ⟨T, hT⟩ : ∃ T, T = ofP (K.map swapP) := ⟨_, rfl⟩
              rw [← hT]
              have HT := Lib.hid hT
              rintro e w9 ⟨v9, rfl, o9, b9⟩
              have D9 := below_later D0 b9
              have OL9 := Lib.hid (OLy.out.later b9)
              have OK9 := Lib.hid (OKy.out.later b9)
              have O9 := Lib.hid o9.seg
              clear o9 b9 hT OLy OKy
              go_wp2_with fail
              refine (dturn_any _ K _ OK9.out HK40.out).mono ?_
              rw [← HT.out]
              rintro e w10 ⟨v10, rfl, o10, b10⟩
              have D10 := below_later D9 b10
              have OL10 := Lib.hid (OL9.out.later b10)
              have OK10 := Lib.hid (OK9.out.later b10)
              have O9' := Lib.hid (O9.out.later b10)
              have O10 := Lib.hid o10.seg
              clear o10 b10 OL9 OK9 O9
              go_wp2_with fail
              refine (equalP_seg _ _ T T _ O9'.out O10.out).mono ?_
              rw [show decide (T = T) = true from by simp]
              rintro e w11 ⟨rfl, g11⟩
              have D11 := below_later D10 g11.below
              have OL11 := Lib.hid (OL10.out.later g11.below)
              have OK11 := Lib.hid (OK10.out.later g11.below)
              clear g11 OL10 OK10 O9' O10
              go_wp2_with fail
              refine (firsts_any _ L _ OL11.out).mono ?_
              rw [HK.out.firsts]
              obtain ⟨F, hF⟩ : ∃ F, F = dd (K.map (·.1)) := ⟨_, rfl⟩
              rw [← hF]
              have HF := Lib.hid hF
              rintro e w12 ⟨v12, rfl, o12, b12⟩
              have D12 := below_later D11 b12
              have OL12 := Lib.hid (OL11.out.later b12)
              have OK12 := Lib.hid (OK11.out.later b12)
              have O12 := Lib.hid o12
              clear o12 b12 hF OL11 OK11
              go_wp2_with fail
              refine (dfirsts_any _ K _ OK12.out HK40.out).mono ?_
              rw [← HF.out]
              rintro e w13 ⟨v13, rfl, o13, b13⟩
              have D13 := below_later D12 b13
              have OL13 := Lib.hid (OL12.out.later b13)
              have O12' := Lib.hid (O12.out.later b13).seg
              have O13 := Lib.hid o13.seg
              clear o13 b13 OL12 OK12 O12
              go_wp2_with fail
              refine (equalu_seg _ _ F F _ O12'.out O13.out).mono ?_
              rw [show decide (F = F) = true from by simp]
              rintro e w14 ⟨rfl, b14⟩
              have D14 := below_later D13 b14
              have OL14 := Lib.hid (OL13.out.later b14)
              clear b14 OL13 O12' O13
              go_wp2_with fail
              refine (fewP_any ox nx cx X _ HLX.out hcx hmx (HX.out.later D14)).mono ?_
              rw [← HL.out]
              rintro e w15 ⟨v15, rfl, o15, b15⟩
              have D15 := below_later D14 b15
              have OL15 := Lib.hid (OL14.out.later b15)
              have O15 := Lib.hid o15.seg
              clear o15 b15 OL14
              go_wp2_with fail
              refine (equalP_seg _ _ L L _ OL15.out O15.out).mono ?_
              rw [show decide (L = L) = true from by simp]
              rintro e w16 ⟨rfl, g16⟩
              have D16 := below_later D15 g16.below
              clear g16
              go_wp2
              go_ret
              exact ⟨rfl, D16⟩
        · have hnl : ¬ k < n := by omega
          obtain ⟨wz, hwz⟩ : ∃ wz, wz = wr := ⟨_, rfl⟩
          rw [← hwz] at hB ⊢
          have BZ := hB
          clear hwz hk'
          go_wp2
          have SLz := Lib.hid (OL.out.later BZ)
          have SKz := Lib.hid (SK4.out.later BZ)
          have HBW := Lib.hid (below_later HB4.out BZ)
          clear BZ hB
          go_loopw [83] (fun i wq => ∃ q : Nat, q ≤ nz ∧ i = .int .i64 (q : Int) ∧ Below wz.heap.size wz wq) (fun i _ => nz - (intOf i).toNat)
          case atStart => exact ⟨0, by omega, rfl, Below.refl _ _⟩
          case round =>
            obtain ⟨q, hq, rfl, hC⟩ := hrel
            by_cases hlq : q < nz
            · have hql : q < Z.length := by have := HLZ.out; omega
              obtain ⟨a, ha, hcz'⟩ := (HZ.out.later (below_later HBW.out hC)).resolve_left (fun h => by rw [h.2.1] at hql; simp at hql)
              have dz := hcz' q hql
              obtain ⟨z, hz⟩ : ∃ z, z = Z[q] := ⟨_, rfl⟩
              rw [← hz] at dz
              subst ha
              clear hz hcz'
              by_cases h10 : q < 10
              · have t1 : decide ((q : Int) < 10) = true := by simp; omega
                go_wp2_with fail
                refine (seconds_any _ L _ (SLz.out.later hC) HNN.out z).mono ?_
                rw [HK.out.secs]
                obtain ⟨S, hS⟩ : ∃ S, S = (K.filter fun x => decide (x.1 = z)).map (·.2) := ⟨_, rfl⟩
                rw [← hS]
                have HS := Lib.hid hS
                rintro e w6 ⟨v6, rfl, o6, b6⟩
                have C6 := below_later hC b6
                have O6 := Lib.hid o6
                clear o6 b6 dz hS
                go_wp2_with fail
                refine (dsecs_any _ K _ (SKz.out.later C6) HK40.out z).mono ?_
                rw [← HS.out]
                rintro e w7 ⟨v7, rfl, o7, b7⟩
                have C7 := below_later C6 b7
                have O67 := Lib.hid (O6.out.later b7).seg
                have O7 := Lib.hid o7.seg
                clear o7 b7 C6 O6
                go_wp2_with fail
                refine (equalu_seg _ _ S S _ O67.out O7.out).mono ?_
                rw [show decide (S = S) = true from by simp]
                rintro e w8 ⟨rfl, b8⟩
                have C8 := below_later C7 b8
                clear b8 C7 O67 O7
                go_wp2
                go_roundw
                case rel => exact ⟨q + 1, by omega, by go_num, C8⟩
                case measure => simp [intOf]; omega
              · have t1 : decide ((q : Int) < 10) = false := by simp; omega
                go_wp2
                go_roundw
                case rel => exact ⟨q + 1, by omega, by go_num, hC⟩
                case measure => simp [intOf]; omega
            · have D0 := below_later HBW.out hC
              have OLy := Lib.hid (SLz.out.later hC)
              have OKy := Lib.hid (SKz.out.later hC)
              clear hC
              go_wp2_with fail
              refine (turn_any _ L _ OLy.out).mono ?_
              rw [HC.out, HK.out.turn]
              obtain ⟨T, hT⟩ : ∃ T, T = ofP (K.map swapP) := ⟨_, rfl⟩
              rw [← hT]
              have HT := Lib.hid hT
              rintro e w9 ⟨v9, rfl, o9, b9⟩
              have D9 := below_later D0 b9
              have OL9 := Lib.hid (OLy.out.later b9)
              have OK9 := Lib.hid (OKy.out.later b9)
              have O9 := Lib.hid o9.seg
              clear o9 b9 hT OLy OKy
              go_wp2_with fail
              refine (dturn_any _ K _ OK9.out HK40.out).mono ?_
              rw [← HT.out]
              rintro e w10 ⟨v10, rfl, o10, b10⟩
              have D10 := below_later D9 b10
              have OL10 := Lib.hid (OL9.out.later b10)
              have OK10 := Lib.hid (OK9.out.later b10)
              have O9' := Lib.hid (O9.out.later b10)
              have O10 := Lib.hid o10.seg
              clear o10 b10 OL9 OK9 O9
              go_wp2_with fail
              refine (equalP_seg _ _ T T _ O9'.out O10.out).mono ?_
              rw [show decide (T = T) = true from by simp]
              rintro e w11 ⟨rfl, g11⟩
              have D11 := below_later D10 g11.below
              have OL11 := Lib.hid (OL10.out.later g11.below)
              have OK11 := Lib.hid (OK10.out.later g11.below)
              clear g11 OL10 OK10 O9' O10
              go_wp2_with fail
              refine (firsts_any _ L _ OL11.out).mono ?_
              rw [HK.out.firsts]
              obtain ⟨F, hF⟩ : ∃ F, F = dd (K.map (·.1)) := ⟨_, rfl⟩
              rw [← hF]
              have HF := Lib.hid hF
              rintro e w12 ⟨v12, rfl, o12, b12⟩
              have D12 := below_later D11 b12
              have OL12 := Lib.hid (OL11.out.later b12)
              have OK12 := Lib.hid (OK11.out.later b12)
              have O12 := Lib.hid o12
              clear o12 b12 hF OL11 OK11
              go_wp2_with fail
              refine (dfirsts_any _ K _ OK12.out HK40.out).mono ?_
              rw [← HF.out]
              rintro e w13 ⟨v13, rfl, o13, b13⟩
              have D13 := below_later D12 b13
              have OL13 := Lib.hid (OL12.out.later b13)
              have O12' := Lib.hid (O12.out.later b13).seg
              have O13 := Lib.hid o13.seg
              clear o13 b13 OL12 OK12 O12
              go_wp2_with fail
              refine (equalu_seg _ _ F F _ O12'.out O13.out).mono ?_
              rw [show decide (F = F) = true from by simp]
              rintro e w14 ⟨rfl, b14⟩
              have D14 := below_later D13 b14
              have OL14 := Lib.hid (OL13.out.later b14)
              clear b14 OL13 O12' O13
              go_wp2_with fail
              refine (fewP_any ox nx cx X _ HLX.out hcx hmx (HX.out.later D14)).mono ?_
              rw [← HL.out]
              rintro e w15 ⟨v15, rfl, o15, b15⟩
              have D15 := below_later D14 b15
              have OL15 := Lib.hid (OL14.out.later b15)
              have O15 := Lib.hid o15.seg
              clear o15 b15 OL14
              go_wp2_with fail
              refine (equalP_seg _ _ L L _ OL15.out O15.out).mono ?_
              rw [show decide (L = L) = true from by simp]
              rintro e w16 ⟨rfl, g16⟩
              have D16 := below_later D15 g16.below
              clear g16
              go_wp2
              go_ret
              exact ⟨rfl, D16⟩
end Go.Proofs.Yteipihoebnmagaa
