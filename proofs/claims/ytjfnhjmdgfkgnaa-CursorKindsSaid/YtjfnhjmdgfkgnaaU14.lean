/- own of stage 7's laws. -/
import Derived.Test.YtjfnhjmdgfkgnaaU13
import Derived.Test.YtjfnhjmdgfkgnaaU9
import Derived.Lib.MinMax
import Derived.Deep.RegionHeld3
namespace Go.Proofs.Kit
open Go.RowKit
structure OH (tT : TypeId) (w : World) (v1 v2 : Value) (W : World) : Prop where
  k0 : Blk W w.heap.size #[v1, v2] tT
  k1 : ∃ y0 y1, Blk W (w.heap.size + 1) #[y0, y1] tT
  low : Below w.heap.size w W
section
variable {tT : TypeId} {w W W' : World} {v1 v2 : Value}
theorem OH.later (h : OH tT w v1 v2 W) (hb : Below W.heap.size W W') : OH tT w v1 v2 W' := ⟨h.k0.later hb, let ⟨y0, y1, h1⟩ := h.k1; ⟨y0, y1, h1.later hb⟩, below_later h.low hb⟩
theorem OH.drew (h : OH tT w v1 v2 W) : OH tT w v1 v2 W.drew := h.later (Below.refl _ _).drew
theorem OH.st (h : OH tT w v1 v2 W) (u0 u1 : Value) : OH tT w v1 v2 ((W.setCell ⟨w.heap.size + 1, 0, none⟩ u0).setCell ⟨w.heap.size + 1, 1, none⟩ u1) :=
  ⟨(h.k0.other (by simp) _).other (by simp) _, let ⟨_, _, h1⟩ := h.k1; ⟨u0, u1, h1.set2 u0 u1⟩, (h.low.setCell (by simp) _).setCell (by simp) _⟩
theorem OH.all (h : OH tT w v1 v2 W) : (W.cell? ⟨w.heap.size, 0, none⟩ = some v1 ∧ W.cell? ⟨w.heap.size, 1, none⟩ = some v2) ∧ OH tT w v1 v2 W := ⟨⟨h.k0.cell 0, h.k0.cell 1⟩, h⟩
end
theorem OwnR.oth {t : TypeId} {B : Nat} {w : World} {v : Value} {l : List Br} (h : OwnR t B w v l) {g : Nat} (hg : v.ownBlock ≠ some g) (j : Nat) (u : Value) : OwnR t B (w.setCell ⟨g, j, none⟩ u) v l := h.other hg j u
theorem OwnR.shapeN {t : TypeId} {B : Nat} {w : World} {v : Value} {l : List Br} (h : OwnR t B w v l) {n : Nat} (hn : l.length = n) : ∃ o c, v = .slice o n c := by
  obtain ⟨o, c, e⟩ := h.shape
  exact ⟨o, c, by rw [e, hn]⟩
end Go.Proofs.Kit
namespace Go.Proofs.Ytjfnhjmdgfkgnaa
open Go.RowKit Go.Proofs.Kit
set_option maxRecDepth 100000 in
set_option maxHeartbeats 8000000 in
theorem own7_any (ob : Option Addr) (m cb : Nat) (ol : Option Addr) (q cl : Nat) (bs : List Br) (lv : List Int) (w : World) (hm : bs.length = m) (hmc : m ≤ cb) (hcb : cb ≤ 9223372036854775807) (ab : ArgR w ob cb bs) (hq : lv.length = q) (hqc : q ≤ cl) (hcl : cl ≤ 9223372036854775807) (al : ArgI .u64 w ol cl lv) :
    Calls Try.prog 12 #[.agg #[.slice ob m cb, .slice ol q cl]] w fun e w' => ∃ o1 m1 c1 o2 q2 c2, e = .returned (.agg #[.slice o1 m1 c1, .slice o2 q2 c2]) ∧ OwnR 68 w.heap.size w' (.slice o1 m1 c1) (bs.take 40) ∧ Owns .u64 32 w.heap.size w' (.slice o2 q2 c2) (lv.take 60) ∧ Below w.heap.size w w' := by
  obtain ⟨m1, hm1⟩ : ∃ m1, m1 = min m 40 := ⟨_, rfl⟩
  obtain ⟨q1, hq1⟩ : ∃ q1, q1 = min q 60 := ⟨_, rfl⟩
  have hm2 : (bs.take 40).length = m1 := by rw [List.length_take]; omega
  have hq2 : (lv.take 60).length = q1 := by rw [List.length_take]; omega
  have HCB := Lib.hid (fun W (h : Below w.heap.size w W) => cloneR_any ob m1 cb (bs.take 40) W hm2 (by omega) ((ab.later h).take 40))
  have HCU := Lib.hid (fun W (h : Below w.heap.size w W) => cloneu_any ol q1 cl (lv.take 60) W hq2 (by omega) ((al.later h).take 60))
  have HM2 := Lib.hid hm2
  have HQ2 := Lib.hid hq2
  have im : min (m : Int) 40 = (m1 : Int) := by omega
  have iq : min (q : Int) 60 = (q1 : Int) := by omega
  have j1 : m1 ≤ cb := by omega
  have j2 : q1 ≤ cl := by omega
  have j3 : (m1 : Int) ≤ (cb : Int) := by omega
  have j4 : (q1 : Int) ≤ (cl : Int) := by omega
  clear ab al hm hq hm2 hq2 hm1 hq1
  go_enter Try.func12, Try.ntmps12
  go_wp2_with fail
  obtain ⟨W0, hW0⟩ : ∃ W0, W0 = (w.alloc (.cells #[.slice ob m cb, .slice ol q cl] 25)).alloc (.cells #[.slice none 0 0, .slice none 0 0] 25) := ⟨_, rfl⟩
  have hws : OH 25 w (.slice ob m cb) (.slice ol q cl) W0 := by
    rw [hW0]
    refine ⟨(Blk.new _ _ _).alloc _, ⟨.slice none 0 0, .slice none 0 0, ?_⟩, ((Gr.alloc _ _).trans (Gr.alloc _ _)).below⟩
    have := Blk.new (w.alloc (.cells #[.slice ob m cb, .slice ol q cl] 25)) #[.slice none 0 0, .slice none 0 0] 25
    simpa using this
  rw [← hW0]
  clear hW0
  obtain ⟨⟨c0, c1⟩, _⟩ := hws.all
  go_region_held3 (fun w' => (w'.cell? ⟨w.heap.size, 0, none⟩ = some (.slice ob m cb) ∧ w'.cell? ⟨w.heap.size, 1, none⟩ = some (.slice ol q cl)) ∧ OH 25 w (.slice ob m cb) (.slice ol q cl) w')
    (first | exact hws.all | exact hws.drew.all | exact (hws.st _ _).all)
    (first
      | (go_at_call 53; (with_reducible refine (HCB.out _ (by first | exact hws.low | exact hws.drew.low)).mono ?_); rintro e wS ⟨vB, rfl, hB, bS⟩; obtain ⟨o1, x1, rfl⟩ := hB.shapeN HM2.out; have hB := hB.mono (B' := w.heap.size) (by first | exact hws.low.size | exact hws.drew.low.size); (first | (have hU := hU.later bS) | skip); have hws := (by first | exact hws.later bS | exact hws.drew.later bS : OH 25 w (.slice ob m cb) (.slice ol q cl) wS); obtain ⟨y0, y1, hk1⟩ := hws.k1; obtain ⟨z0, z1⟩ := hk1.z2; obtain ⟨v0, v1, vl⟩ := hk1.two; clear bS)
      | (go_at_call 54; (with_reducible refine (HCU.out _ (by first | exact hws.low | exact hws.drew.low)).mono ?_); rintro e wS ⟨vU, rfl, hU, bS⟩; obtain ⟨o2, x2, rfl⟩ := hU.shapeN HQ2.out; have hU := hU.mono (B' := w.heap.size) (by first | exact hws.low.size | exact hws.drew.low.size); (first | (have hB := hB.later bS) | skip); have hws := (by first | exact hws.later bS | exact hws.drew.later bS : OH 25 w (.slice ob m cb) (.slice ol q cl) wS); obtain ⟨y0, y1, hk1⟩ := hws.k1; obtain ⟨z0, z1⟩ := hk1.z2; obtain ⟨v0, v1, vl⟩ := hk1.two; clear bS))
  all_goals
    have HR := Lib.hid (hk1.set2 (.slice o1 m1 x1) (.slice o2 q1 x2))
    have HBB := Lib.hid ((hB.oth (hB.ne_blk hk1 (by decide)) 0 (.slice o1 m1 x1)).oth (hB.ne_blk hk1 (by decide)) 1 (.slice o2 q1 x2))
    have HUU := Lib.hid ((hU.oth (hU.ne_blk hk1 (by decide)) 0 (.slice o1 m1 x1)).oth (hU.ne_blk hk1 (by decide)) 1 (.slice o2 q1 x2))
    have HLO := Lib.hid (hws.st (.slice o1 m1 x1) (.slice o2 q1 x2)).low
    clear hB hU hws hk1 HCB HCU
    go_wp2
    obtain ⟨r0, r1, _⟩ := HR.out.two
    exact bodyPost_ret (v := .agg #[.slice o1 m1 x1, .slice o2 q1 x2]) (by simp [results, Try.results12, go_sem, r0, r1]) rfl ⟨o1, m1, x1, o2, q1, x2, rfl, HBB.out, HUU.out, HLO.out⟩
end Go.Proofs.Ytjfnhjmdgfkgnaa

