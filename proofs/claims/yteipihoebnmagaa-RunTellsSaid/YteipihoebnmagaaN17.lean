/- run.Between; slices.Contains of pairs. -/
import Derived.Test.YteipihoebnmagaaN15
import Derived.Deep.RegionHeld3
namespace Go.Proofs.Yteipihoebnmagaa
open Go.RowKit Go.Proofs.Kit
/-- What of a run stands from one pair to another. -/
def betw (l : List Pr) (f t : Pr) : List Pr := if okP l ∧ lt2 f t then (l.drop (plc l f)).take (plc l t - plc l f) else []
theorem plc_mono {l : List Pr} (h : Run l) {f t : Pr} (hft : lt2 f t) : plc l f ≤ plc l t := by
  by_cases c : plc l f ≤ plc l t
  · exact c
  · have hlt : plc l t < l.length := Nat.lt_of_lt_of_le (by omega) (plc_le l f)
    have h1 := (plc_lt h (p := f) hlt).1 (by omega)
    have h2 := (plc_lt h hlt).2 (lt2_trans h1 hft)
    omega
theorem betw_mem {l : List Pr} (h : okP l) {f t : Pr} (hft : lt2 f t) (p : Pr) : p ∈ betw l f t ↔ p ∈ l ∧ ¬ lt2 p f ∧ lt2 p t := by
  rw [betw, if_pos ⟨h, hft⟩]
  constructor
  · intro hm
    obtain ⟨i, hi, rfl⟩ := List.getElem_of_mem hm
    have hi' := hi
    rw [List.length_take, List.length_drop] at hi'
    rw [List.getElem_take, List.getElem_drop]
    have hl : plc l f + i < l.length := by omega
    refine ⟨List.getElem_mem hl, fun q => ?_, (plc_lt h.1 hl).1 (by omega)⟩
    have := (plc_lt h.1 hl).2 q
    omega
  · rintro ⟨hm, h1, h2⟩
    obtain ⟨i, hi, rfl⟩ := List.getElem_of_mem hm
    have e1 : plc l f ≤ i := by
      by_cases c : plc l f ≤ i
      · exact c
      · exact (h1 ((plc_lt h.1 hi).1 (by omega))).elim
    have e2 : i < plc l t := (plc_lt h.1 hi).2 h2
    refine List.mem_iff_getElem.2 ⟨i - plc l f, by rw [List.length_take, List.length_drop]; omega, ?_⟩
    rw [List.getElem_take, List.getElem_drop]
    simp only [show plc l f + (i - plc l f) = i by omega]
theorem betw_no {l : List Pr} {f t : Pr} (h : ¬ (okP l ∧ lt2 f t)) : betw l f t = [] := if_neg h
set_option maxHeartbeats 1000000 in
theorem contains_any (v : Value) (l : List Pr) (w : World) (hs : SegP w v l) (p1 p2 : Int) :
    Calls Try.prog 53 #[v, PV p1 p2] w fun e w' => (∃ t : Int, e = .returned (.int .i64 t) ∧ (0 ≤ t ↔ (p1, p2) ∈ l)) ∧ Gr w w' := by
  have hl62 := hs.1
  obtain ⟨o, c, rfl, _, _, hsh⟩ := hs.shape
  obtain ⟨n, hn⟩ : ∃ n, n = l.length := ⟨_, rfl⟩
  rw [← hn] at hl62 hs ⊢
  have HN := Lib.hid hn
  have HS := Lib.hid hs
  clear hn hs hsh
  go_enter Try.func53, Try.ntmps53
  go_wp2
  obtain ⟨wb, hwb⟩ : ∃ wb, wb = w.alloc (.cells #[.int .u64 p1, .int .u64 p2] 30) := ⟨_, rfl⟩
  have hk : Blk wb w.heap.size #[.int .u64 p1, .int .u64 p2] 30 := by rw [hwb]; exact Blk.new _ _ _
  have hG0 : Gr w wb := by rw [hwb]; exact Gr.alloc _ _
  rw [← hwb]
  have HK := Lib.hid hk
  clear hwb hk
  go_loopw [5, 8] (fun _ i wr => ∃ k : Nat, k ≤ n ∧ i = .int .i64 (k : Int) ∧ Hid (∀ j (h : j < l.length), j < k → l[j] ≠ (p1, p2)) ∧ Gr wb wr) (fun _ i _ => n - (intOf i).toNat)
  case atStart => exact ⟨0, by omega, rfl, Lib.hid (fun j _ h => by omega), Gr.refl _⟩
  case round =>
    obtain ⟨k, hk, rfl, HI, hG⟩ := hrel
    by_cases hlt : k < n
    · have hkl : k < l.length := by have := HN.out; omega
      obtain ⟨b, f, rfl, hb, hcells⟩ := HS.out.has hkl
      obtain ⟨d1, d2⟩ := (hcells.below (hG0.trans hG).below hb) k hkl
      have bk := HK.out.later hG.below
      have c0 := bk.cell 0
      have c1 := bk.cell 1
      simp only [List.getElem?_toArray, List.getElem?_cons_zero, List.getElem?_cons_succ] at c0 c1
      obtain ⟨x, hx⟩ : ∃ x, x = l[k] := ⟨_, rfl⟩
      rw [← hx] at d1 d2
      have HX := Lib.hid hx
      clear hx hcells bk
      obtain ⟨x1, x2⟩ := x
      simp only at d1 d2
      by_cases hxy : p1 = x1 ∧ p2 = x2
      · have t1 : (p1 == x1) = true := by simpa using hxy.1
        have t2 : (p2 == x2) = true := by simpa using hxy.2
        have HM := Lib.hid (show (p1, p2) ∈ l by rw [hxy.1, hxy.2, HX.out]; exact List.getElem_mem hkl)
        clear hxy
        go_wp2
        go_quiet (fail)
        go_wp2
        go_ret
        exact ⟨⟨k, rfl, ⟨fun _ => HM.out, fun _ => by omega⟩⟩, hG0.trans (hG.trans (Gr.drewN _ _))⟩
      · have HI2 : Hid (∀ j (h : j < l.length), j < k + 1 → l[j] ≠ (p1, p2)) := Lib.hid fun j hj hjk => by
          by_cases e : j = k
          · subst e
            rw [← HX.out]
            intro q
            injection q with q1 q2
            exact hxy ⟨q1.symm, q2.symm⟩
          · exact HI.out j hj (by omega)
        by_cases h1 : p1 = x1
        · have t1 : (p1 == x1) = true := by simpa using h1
          have t2 : (p2 == x2) = false := by simpa using fun q => hxy ⟨h1, q⟩
          clear h1 hxy
          go_wp2
          go_quiet (fail)
          go_wp2
          go_roundw
          case rel => exact ⟨k + 1, by omega, by go_num, HI2, hG.trans (Gr.drewN _ _)⟩
          case measure => simp [intOf]; omega
        · have t1 : (p1 == x1) = false := by simpa using h1
          clear h1 hxy
          go_wp2
          go_quiet (fail)
          go_wp2
          go_roundw
          case rel => exact ⟨k + 1, by omega, by go_num, HI2, hG.trans (Gr.drewN _ _)⟩
          case measure => simp [intOf]; omega
    · have HM := Lib.hid (show ¬ (p1, p2) ∈ l from fun hm => by
        obtain ⟨i, hi, e⟩ := List.getElem_of_mem hm
        exact HI.out i hi (by have := HN.out; omega) e)
      go_wp2
      go_ret
      exact ⟨⟨-1, rfl, ⟨fun h => by omega, fun h => (HM.out h).elim⟩⟩, hG0.trans hG⟩
set_option maxHeartbeats 1000000 in
theorem has_pair (v : Value) (l : List Pr) (w : World) (hs : SegP w v l) (p1 p2 : Int) (t : Bool) (ht : decide ((p1, p2) ∈ l) = t) :
    Calls Try.prog 35 #[v, PV p1 p2] w fun e w' => e = .returned (.bool t) ∧ Gr w w' := by
  obtain ⟨o, c, rfl, _, _, _⟩ := hs.shape
  have HS := Lib.hid hs
  have HT := Lib.hid ht
  clear hs ht
  go_enter Try.func35, Try.ntmps35
  go_wp2_with fail
  refine (contains_any _ l _ (HS.out.alloc _) p1 p2).mono ?_
  rintro e w1 ⟨⟨i, rfl, hi⟩, g1⟩
  have h0 : decide (0 ≤ i) = t := by rw [← HT.out, decide_eq_decide]; exact hi
  clear hi
  cases t
  all_goals
    go_wp2
    go_ret
    exact ⟨rfl, (Gr.alloc _ _).trans g1⟩
theorem place_is (v : Value) (l : List Pr) (w : World) (hs : SegP w v l) (hn : l.length ≤ 1048576) (hr : Run l) (p1 p2 : Int) (t : Nat) (ht : t = plc l (p1, p2)) :
    Calls Try.prog 44 #[v, PV p1 p2] w fun e w' => e = .returned (.int .i64 (t : Int)) ∧ Gr w w' := ht ▸ place_any v l w hs hn hr p1 p2
theorem compare_is (a b c d t : Int) (h : cf2 (a, b) (c, d) = t) (W : World) : Calls Try.prog 12 #[PV a b, PV c d] W fun e w' => e = .returned (.int .i64 t) ∧ Gr W w' := h ▸ compare_any a b c d W
/-- The two boxes of Between, and what was there. -/
def BX (w : World) (f1 f2 t1 t2 : Int) (v : Value) (l : List Pr) (w' : World) : Prop := Blk w' w.heap.size #[.int .u64 f1, .int .u64 f2] 30 ∧ Blk w' (w.heap.size + 1) #[.int .u64 t1, .int .u64 t2] 30 ∧ SegP w' v l ∧ Below w.heap.size w w'
section
variable {w w' w'' : World} {f1 f2 t1 t2 : Int} {v : Value} {l : List Pr}
theorem BX.later (h : BX w f1 f2 t1 t2 v l w') (hb : Below w'.heap.size w' w'') : BX w f1 f2 t1 t2 v l w'' := ⟨h.1.later hb, h.2.1.later hb, h.2.2.1.later hb, h.2.2.2.trans (hb.mono h.2.2.2.size)⟩
theorem BX.drew (h : BX w f1 f2 t1 t2 v l w') : BX w f1 f2 t1 t2 v l w'.drew := h.later (Below.refl _ _).drew
theorem BX.seg (h : BX w f1 f2 t1 t2 v l w') : SegP w' v l := h.2.2.1
theorem BX.low (h : BX w f1 f2 t1 t2 v l w') : Below w.heap.size w w' := h.2.2.2
theorem BX.all (h : BX w f1 f2 t1 t2 v l w') : (w'.cell? ⟨w.heap.size, 0, none⟩ = some (.int .u64 f1) ∧ w'.cell? ⟨w.heap.size, 1, none⟩ = some (.int .u64 f2) ∧ w'.cell? ⟨w.heap.size + 1, 0, none⟩ = some (.int .u64 t1) ∧ w'.cell? ⟨w.heap.size + 1, 1, none⟩ = some (.int .u64 t2)) ∧ BX w f1 f2 t1 t2 v l w' := ⟨⟨h.1.cell 0, h.1.cell 1, h.2.1.cell 0, h.2.1.cell 1⟩, h⟩
end
set_option maxHeartbeats 4000000 in
theorem between_any (v : Value) (l : List Pr) (w : World) (hs : SegP w v l) (f1 f2 t1 t2 : Int) :
    Calls Try.prog 18 #[v, PV f1 f2, PV t1 t2] w fun e w' => ∃ v', e = .returned v' ∧ OwnP 30 w.heap.size w' v' (betw l (f1, f2) (t1, t2)) ∧ Below w.heap.size w w' := by
  obtain ⟨o, c, rfl, _, _, _⟩ := hs.shape
  have HS := Lib.hid hs
  clear hs
  have hcn := cf2_neg (f1, f2) (t1, t2)
  obtain ⟨k, hk⟩ : ∃ k, cf2 (f1, f2) (t1, t2) = k := ⟨_, rfl⟩
  rw [hk] at hcn
  have HK := Lib.hid hk
  clear hk
  by_cases hck : okP l
  · have HC0 := Lib.hid (ckP_yes hck)
    by_cases hlt : k < 0
    · have hd : decide (0 ≤ k) = false := by simp; omega
      have hv : betw l (f1, f2) (t1, t2) = (l.drop (plc l (f1, f2))).take (plc l (t1, t2) - plc l (f1, f2)) := if_pos ⟨hck, hcn.1 hlt⟩
      have hpm := plc_mono hck.1 (hcn.1 hlt)
      have hpl := plc_le l (t1, t2)
      have HO := Lib.hid hck
      have HOR := Lib.hid hck.1
      have HOL := Lib.hid hck.2
      rw [hv]
      obtain ⟨p, hp⟩ : ∃ p, p = plc l (f1, f2) := ⟨_, rfl⟩
      obtain ⟨q, hq⟩ : ∃ q, q = plc l (t1, t2) := ⟨_, rfl⟩
      rw [← hp, ← hq] at hpm ⊢
      rw [← hq] at hpl
      have HP := Lib.hid hp
      have HQ := Lib.hid hq
      clear hv hcn hp hq hck
      go_enter Try.func18, Try.ntmps18
      go_wp2_with fail
      refine (check_any _ l _ ((HS.out.alloc _).alloc _)).mono ?_
      rw [HC0.out]
      rintro e w1 ⟨rfl, g1⟩
      have hws : BX w f1 f2 t1 t2 (.slice o l.length c) l w1 := ⟨((Blk.new _ _ _).alloc _).later g1.below, by have := (Blk.new (w.alloc (.cells #[.int .u64 f1, .int .u64 f2] 30)) #[.int .u64 t1, .int .u64 t2] 30).later g1.below; simpa using this, ((HS.out.alloc _).alloc _).later g1.below, (((Gr.alloc _ _).trans (Gr.alloc _ _)).trans g1).below⟩
      obtain ⟨⟨c0, c1, c2, c3⟩, _⟩ := hws.all
      clear g1
      go_wp2_with fail
      refine (compare_is f1 f2 t1 t2 k HK.out _).mono ?_
      rintro e w2 ⟨rfl, g2⟩
      have hws := hws.later g2.below
      clear c0 c1 c2 c3 g2
      obtain ⟨⟨c0, c1, c2, c3⟩, hw0⟩ := hws.all
      have hsz := hw0.2.2.2.size
      clear hw0
      have HLEN := Lib.hid (show ((l.drop p).take (q - p)).length ≤ 1000000000 by have := HO.out.2; rw [List.length_take, List.length_drop]; omega)
      go_wp2_with fail
      go_region_held3 (fun w' => (w'.cell? ⟨w.heap.size, 0, none⟩ = some (.int .u64 f1) ∧ w'.cell? ⟨w.heap.size, 1, none⟩ = some (.int .u64 f2) ∧ w'.cell? ⟨w.heap.size + 1, 0, none⟩ = some (.int .u64 t1) ∧ w'.cell? ⟨w.heap.size + 1, 1, none⟩ = some (.int .u64 t2)) ∧ BX w f1 f2 t1 t2 (.slice o l.length c) l w') (first | exact hws.all | exact hws.drew.all) (first | (go_at_call 44; (with_reducible refine (place_is _ l _ (by first | exact hws.seg | exact hws.drew.seg) HOL.out HOR.out f1 f2 p HP.out).mono ?_); rintro e wp ⟨rfl, gp⟩; have hws : BX w f1 f2 t1 t2 (.slice o l.length c) l wp := (by first | exact hws.later gp.below | exact hws.drew.later gp.below)) | (go_at_call 44; (with_reducible refine (place_is _ l _ (by first | exact hws.seg | exact hws.drew.seg) HOL.out HOR.out t1 t2 q HQ.out).mono ?_); rintro e wp ⟨rfl, gp⟩; have hws : BX w f1 f2 t1 t2 (.slice o l.length c) l wp := (by first | exact hws.later gp.below | exact hws.drew.later gp.below)) | (go_at_call 43; (with_reducible refine (cut_any _ l p q _ (by first | exact hws.seg | exact hws.drew.seg) hpm hpl).mono ?_); rintro e wc ⟨⟨vc, rfl, sc⟩, rfl⟩) | (go_at_call 40; (with_reducible refine (copied_any _ _ _ sc HLEN.out).mono ?_); rintro e wd ⟨vd, rfl, od, bd⟩; have hbs := hws.low.size; have hws : BX w f1 f2 t1 t2 (.slice o l.length c) l wd := (by first | exact hws.later bd | exact hws.drew.later bd)))
      all_goals
        go_wp2
        go_ret
        exact ⟨_, rfl, od.mono (by omega), hws.low⟩
    · have hd : decide (0 ≤ k) = true := by simp; omega
      have hv : betw l (f1, f2) (t1, t2) = [] := betw_no fun h => hlt (hcn.2 h.2)
      rw [hv]
      clear hv hcn hlt hck
      go_enter Try.func18, Try.ntmps18
      go_wp2_with fail
      refine (check_any _ l _ ((HS.out.alloc _).alloc _)).mono ?_
      rw [HC0.out]
      rintro e w1 ⟨rfl, g1⟩
      have hws : BX w f1 f2 t1 t2 (.slice o l.length c) l w1 := ⟨((Blk.new _ _ _).alloc _).later g1.below, by have := (Blk.new (w.alloc (.cells #[.int .u64 f1, .int .u64 f2] 30)) #[.int .u64 t1, .int .u64 t2] 30).later g1.below; simpa using this, ((HS.out.alloc _).alloc _).later g1.below, (((Gr.alloc _ _).trans (Gr.alloc _ _)).trans g1).below⟩
      obtain ⟨⟨c0, c1, c2, c3⟩, _⟩ := hws.all
      clear g1
      go_wp2_with fail
      refine (compare_is f1 f2 t1 t2 k HK.out _).mono ?_
      rintro e w2 ⟨rfl, g2⟩
      have hws := hws.later g2.below
      clear c0 c1 c2 c3 g2
      go_wp2
      go_ret
      exact ⟨_, rfl, OwnP.nil _ _ _, hws.2.2.2⟩
  · have HC0 := Lib.hid (ckP_no hck)
    have hv : betw l (f1, f2) (t1, t2) = [] := betw_no fun h => hck h.1
    rw [hv]
    clear hv hcn hck
    go_enter Try.func18, Try.ntmps18
    go_wp2_with fail
    refine (check_any _ l _ ((HS.out.alloc _).alloc _)).mono ?_
    rw [HC0.out]
    rintro e w1 ⟨rfl, g1⟩
    go_wp2
    go_ret
    exact ⟨_, rfl, OwnP.nil _ _ _, (((Gr.alloc _ _).trans (Gr.alloc _ _)).trans g1).below⟩
end Go.Proofs.Yteipihoebnmagaa
