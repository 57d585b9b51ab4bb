/- trie.part. -/
import Derived.Test.YtjfnhjmdgfkgnaaU16
import Derived.Test.YtjfnhjmdgfkgnaaU12
import Derived.Deep.RegionHeldLaw
namespace Go.Proofs.Kit
open Go.RowKit
/-- append of a part of numbers onto a row of the call's own, as a step of a region that draws its order. -/
theorem step_append_seg {P : Program} {ops : Array Oper} {w : World} {o : Oper} {a : Act} {K : Act → World → Prop} {Q : Exit → Act → World → Prop} {E : Prop} (hgd : o.guard = none) (s x : Operand) (t : TypeId)
    (ho : o.op = .call { callee := .builtin .append, args := #[s, x], argTypes := #[t, t] }) (k : IntKind)
    (base : Nat) (e : TypeId) (i : TypeInfo) (z : Value) (bytes : Nat) (ht : P.underlying t = some (.slice e)) (hi : P.info? e = some i) (hz : i.zero = some z) (hsize : i.size = 1) (hby : i.bytes = bytes) (hzs : z.cells.size = 1)
    (v : Value) (l : List Int) (hs : a.eval s = v) (hown : Owns k e base w v l) (vx : Value) (m : List Int) (hx : a.eval x = vx) (hm : Seg k w vx m) (hm0 : m ≠ [])
    (h63 : l.length + m.length ≤ 9223372036854775807) (hbytes : (l.length + m.length) * bytes ≤ 140737488355328) (hbase : base ≤ w.heap.size)
    (h : ∀ v' w', Owns k e base w' v' (l ++ m) → Below base w w' → K (a.put o.dst v') w') : if Region.wanted o (yielded ops a.tmps) = true then Oper.wp P o a w K Q else E := by
  rw [if_pos (by simp [Region.wanted, hgd])]
  rcases hm.2 with ⟨_, rfl⟩ | ⟨b, f, c, rfl, h2, h3, h4, h5⟩
  · exact (hm0 rfl).elim
  · subst hby
    have hnews : ∀ j u, (m.map (Value.int k))[j]? = some u → w.cell? ((⟨b, f, none⟩ : Addr).add j) = some u := by
      intro j u hj
      have hj' : j < m.length := by have := (List.getElem?_eq_some_iff.1 hj).1; simpa using this
      rw [Addr.add_lit, h5 j hj', ← hj]
      simp [hj']
    obtain ⟨v', w', hr, hO, hG, _⟩ := run_append_own (P := P) w base t o.type e i z 1 i.bytes ht hi hz hsize rfl hzs (by decide) v _ _ hown ⟨b, f, none⟩ m.length c (m.map (Value.int k)) (by simp) hnews (ints_oneCell _ _) (by unfold maxLen; omega) hbytes hbase
    unfold Oper.wp execOp
    simp only [ho, resolve, invoke, builtin, Sem.run_bind, Sem.run_pure, Result.andThen_ok, List.map_toArray, List.map_cons, List.map_nil, hs, hx, hr]
    refine h v' w' ?_ ((Below.refl _ _).grown hG hbase (fun g hg => (hown.lt g hg).1))
    unfold Owns
    rw [List.length_append, List.map_append]
    exact hO
/-- What part reads first. -/
structure PH (tT : TypeId) (w : World) (v1 v2 : Value) (W : World) : Prop where
  k0 : Blk W w.heap.size #[v1, v2] tT
  k1 : Blk W (w.heap.size + 1) #[.slice none 0 0, .slice none 0 0] tT
  k2 : Blk W (w.heap.size + 2) #[.slice none 0 0, .slice none 0 0] tT
  low : Below w.heap.size w W
theorem PH.later {tT : TypeId} {w W W' : World} {v1 v2 : Value} (h : PH tT w v1 v2 W) (hb : Below W.heap.size W W') : PH tT w v1 v2 W' := ⟨h.k0.later hb, h.k1.later hb, h.k2.later hb, below_later h.low hb⟩
theorem PH.drew {tT : TypeId} {w W : World} {v1 v2 : Value} (h : PH tT w v1 v2 W) : PH tT w v1 v2 W.drew := h.later (Below.refl _ _).drew
theorem PH.alloc {tT : TypeId} {w W : World} {v1 v2 : Value} (h : PH tT w v1 v2 W) (o : Obj) : PH tT w v1 v2 (W.alloc o) := h.later ((Below.refl _ _).alloc (Nat.le_refl _) _)
end Go.Proofs.Kit
namespace Go.Proofs.Ytjfnhjmdgfkgnaa
open Go.RowKit Go.Proofs.Kit
set_option maxRecDepth 100000 in
set_option maxHeartbeats 2000000 in
theorem part_none (ob : Option Addr) (m cb : Nat) (ol : Option Addr) (q cl : Nat) (i : Nat) (w : World) :
    Calls Try.prog 61 #[.agg #[.slice ob m cb, .slice ol q cl], .int .i64 (i : Int), .int .i64 (i : Int)] w fun e w' => e = .returned (.agg #[.slice none 0 0, .slice none 0 0]) ∧ Below w.heap.size w w' := by
  go_enter Try.func61, Try.ntmps61
  go_wp2
  refine bodyPost_ret (v := .agg #[.slice none 0 0, .slice none 0 0]) (by simp [results, Try.results61, go_sem]) rfl ⟨rfl, ?_⟩
  have h0 := (((Gr.alloc w (.cells #[.slice ob m cb, .slice ol q cl] 25)).trans (Gr.alloc _ (.cells #[.slice none 0 0, .slice none 0 0] 25))).trans (Gr.alloc _ (.cells #[.slice none 0 0, .slice none 0 0] 25))).below
  first | exact h0 | exact (h0.setCell (by simp) _).setCell (by simp) _
set_option maxRecDepth 100000 in
set_option maxHeartbeats 8000000 in
theorem part_some (b f m cb : Nat) (bl fl q cl : Nat) (bs : List Br) (lv : List Int) (i j s t : Nat) (w : World) (hb : SegR w (.slice (some ⟨b, f, none⟩) m cb) bs) (hl : Seg .u64 w (.slice (some ⟨bl, fl, none⟩) q cl) lv) (hm : bs.length = m) (hq : lv.length = q) (hml : m ≤ 100000) (hql : q ≤ 100000)
    (hij : i < j) (hjm : j ≤ m) (hs : (bs[i]'(by omega)).2.1 = (s : Int)) (ht : (bs[j - 1]'(by omega)).2.2 = (t : Int)) (hst : s < t) (htq : t ≤ q) (hbd : ∀ x ∈ (bs.drop i).take (j - i), (s : Int) ≤ x.2.1 ∧ x.2.1 ≤ x.2.2 ∧ x.2.2 ≤ 1048576) :
    Calls Try.prog 61 #[.agg #[.slice (some ⟨b, f, none⟩) m cb, .slice (some ⟨bl, fl, none⟩) q cl], .int .i64 (i : Int), .int .i64 (j : Int)] w fun e w' => ∃ o1 m1 c1 o2 q2 c2, e = .returned (.agg #[.slice o1 m1 c1, .slice o2 q2 c2]) ∧
      OwnR 68 w.heap.size w' (.slice o1 m1 c1) (((bs.drop i).take (j - i)).map fun x => (x.1, x.2.1 - (s : Int), x.2.2 - (s : Int))) ∧ Owns .u64 32 w.heap.size w' (.slice o2 q2 c2) ((lv.drop s).take (t - s)) ∧ Below w.heap.size w w' := by
  have hmc : m ≤ cb ∧ cb ≤ 9223372036854775807 ∧ b < w.heap.size ∧ RCells w b f bs := by
    obtain ⟨b', f', e, _, h1, h2, h3, h4⟩ := hb.has (i := i) (by omega)
    injection e with e
    injection e with e1 e2 _
    subst e1 e2
    exact ⟨h1, h2, h3, h4⟩
  obtain ⟨hmc, hcb, hbl, hcells⟩ := hmc
  obtain ⟨hqc, hcl⟩ : q ≤ cl ∧ cl ≤ 9223372036854775807 := by
    obtain ⟨o, c, e0, h1, h2, _⟩ := hl.shape
    injection e0 with _ e1 e2
    omega
  obtain ⟨z, hz⟩ : ∃ z, z = j - 1 := ⟨_, rfl⟩
  have d1 := (hcells i (by omega)).2.1
  have d2 := (hcells z (by omega)).2.2
  rw [hs] at d1
  have ht' : (bs[z]'(by omega)).2.2 = (t : Int) := by subst hz; exact ht
  rw [ht'] at d2
  have hsub : SegR w (.slice (some ⟨b, f + i * 3, none⟩) (j - i) (j - i)) ((bs.drop i).take (j - i)) := by
    have hb' := hb
    rw [← hm] at hb'
    exact hb'.sub (c' := j - i) (by omega) (by omega) (Nat.le_refl _) (by omega)
  have hsl : Seg .u64 w (.slice (some ⟨bl, fl + s, none⟩) (t - s) (t - s)) ((lv.drop s).take (t - s)) := by
    have h2 := hl.lvs (x := (0, (s : Int), (t : Int))) (by simp) (by simp; omega) (by simp; omega)
    simpa [sub3, lvs] using h2
  have hln : ((lv.drop s).take (t - s)).length = t - s := by simp; omega
  have HSUB := Lib.hid hsub
  have HSL := Lib.hid hsl
  have HLN := Lib.hid hln
  have HBD := Lib.hid hbd
  have HBL := Lib.hid (show ((bs.drop i).take (j - i)).length = j - i by simp; omega)
  obtain ⟨i0, hi, hz0, hz1, hz2⟩ := infou
  have hq1 : IntKind.i64.wrap ((j : Int) - 1) = (z : Int) := by rw [IntKind.wrap_i64]; omega
  have hzm : (z : Int) < (m : Int) := by omega
  have him : (i : Int) < (m : Int) := by omega
  have hij2 : ((i : Int) == (j : Int)) = false := by simp; omega
  have hij3 : (i == j) = false := by simp; omega
  have hmix := mixed
  have hmf : ∀ (fn : Fn) (first cap : Array Value) (w : World), (Instr.makeFunc fn first cap).run Try.prog w = .ok (.func fn first cap) w := fun _ _ _ _ => rfl
  have hji : ¬ j = i := by omega
  have hts : ¬ t = s := by omega
  have i1 : (i : Int) ≤ (j : Int) := by omega
  have i2 : j ≤ cb := by omega
  have i3 : (s : Int) ≤ (t : Int) := by omega
  have i4 : t ≤ cl := by omega
  clear hb hl hm hq hs ht ht' hcells hsub hsl hbd hz hln
  go_enter Try.func61, Try.ntmps61
  go_wp2
  obtain ⟨W0, hW0⟩ : ∃ W0, W0 = ((w.alloc (.cells #[.slice (some ⟨b, f, none⟩) m cb, .slice (some ⟨bl, fl, none⟩) q cl] 25)).alloc (.cells #[.slice none 0 0, .slice none 0 0] 25)).alloc (.cells #[.slice none 0 0, .slice none 0 0] 25) := ⟨_, rfl⟩
  have hws : PH 25 w (.slice (some ⟨b, f, none⟩) m cb) (.slice (some ⟨bl, fl, none⟩) q cl) W0 := by
    rw [hW0]
    refine ⟨((Blk.new _ _ _).alloc _).alloc _, ?_, ?_, (((Gr.alloc _ _).trans (Gr.alloc _ _)).trans (Gr.alloc _ _)).below⟩
    · have := (Blk.new (w.alloc (.cells #[.slice (some ⟨b, f, none⟩) m cb, .slice (some ⟨bl, fl, none⟩) q cl] 25)) #[.slice none 0 0, .slice none 0 0] 25).alloc (.cells #[.slice none 0 0, .slice none 0 0] 25)
      simpa using this
    · have := Blk.new ((w.alloc (.cells #[.slice (some ⟨b, f, none⟩) m cb, .slice (some ⟨bl, fl, none⟩) q cl] 25)).alloc (.cells #[.slice none 0 0, .slice none 0 0] 25)) #[.slice none 0 0, .slice none 0 0] 25
      simpa using this
  rw [← hW0]
  clear hW0
  have hk : ∀ W', PH 25 w (.slice (some ⟨b, f, none⟩) m cb) (.slice (some ⟨bl, fl, none⟩) q cl) W' → (W'.cell? ⟨w.heap.size, 0, none⟩ = some (.slice (some ⟨b, f, none⟩) m cb) ∧ W'.cell? ⟨b, f + i * 3 + 1, none⟩ = some (.int .i64 (s : Int)) ∧ W'.cell? ⟨b, f + z * 3 + 2, none⟩ = some (.int .i64 (t : Int))) ∧ PH 25 w (.slice (some ⟨b, f, none⟩) m cb) (.slice (some ⟨bl, fl, none⟩) q cl) W' :=
    fun W' h => ⟨⟨h.k0.cell 0, (h.low.cell (p := ⟨b, f + i * 3 + 1, none⟩) hbl).trans d1, (h.low.cell (p := ⟨b, f + z * 3 + 2, none⟩) hbl).trans d2⟩, h⟩
  have HK := Lib.hid hk
  obtain ⟨⟨e0, e1, e2⟩, _⟩ := hk W0 hws
  clear hk d1 d2
  go_region_held3 (fun W' => (W'.cell? ⟨w.heap.size, 0, none⟩ = some (.slice (some ⟨b, f, none⟩) m cb) ∧ W'.cell? ⟨b, f + i * 3 + 1, none⟩ = some (.int .i64 (s : Int)) ∧ W'.cell? ⟨b, f + z * 3 + 2, none⟩ = some (.int .i64 (t : Int))) ∧ PH 25 w (.slice (some ⟨b, f, none⟩) m cb) (.slice (some ⟨bl, fl, none⟩) q cl) W')
    (first | exact HK.out _ hws | exact HK.out _ hws.drew | exact HK.out _ (hws.drew.alloc _) | exact HK.out _ (hws.alloc _) | exact HK.out _ (hws.alloc _).drew) (fail)
  refine then_at ?_
  intro W4 hW4
  have h4 : PH 25 w (.slice (some ⟨b, f, none⟩) m cb) (.slice (some ⟨bl, fl, none⟩) q cl) W4 := by rw [hW4]; first | exact hws.alloc _ | exact (hws.alloc _).drew | exact hws.drew.alloc _
  have k3 : Blk W4 W0.heap.size #[.int .i64 (s : Int)] 3 := by rw [hW4]; first | exact Blk.new _ _ _ | exact (Blk.new _ _ _).drew
  have hs3 : w.heap.size + 2 < W0.heap.size := hws.k2.lt
  clear hW4 hws HK e0 e1 e2
  obtain ⟨e0, e1, _⟩ := h4.k0.two
  obtain ⟨n0, n1, nl⟩ := h4.k2.two
  obtain ⟨z0, z1⟩ := h4.k2.z2
  have e3 := k3.cell 0
  have l3 := k3.lt
  simp only [List.getElem?_toArray, List.getElem?_cons_zero] at e3
  have HG := Lib.hid (gathBB_any W4.drew.heap.size (.slice none 0 0) [] (.slice (some ⟨b, f + i * 3, none⟩) (j - i) (j - i)) ((bs.drop i).take (j - i)) W4.drew (s : Int) W0.heap.size (OwnR.nil _ _ _) (Nat.le_refl _) (fun W h => (HSUB.out.later h4.low).drew.later h) (fun W h => k3.drew.later h) (by omega) HBD.out (by have := HBL.out; simp at this ⊢; omega))
  have H4 := Lib.hid h4
  have K3 := Lib.hid k3
  clear h4 k3
  go_wp2
  go_region_law ((go_simp; go_at_call 98; (with_reducible refine HG.out.mono ?_); rintro e w5 ⟨v5, rfl, hO5, l5⟩; rw [List.nil_append] at hO5; obtain ⟨o5, c5, rfl⟩ := hO5.shapeN (n := j - i) (by rw [List.length_map]; exact HBL.out); have h5 := H4.out.drew.later l5; obtain ⟨n0, n1, nl⟩ := h5.k2.two; obtain ⟨z0, z1⟩ := h5.k2.z2; obtain ⟨e0, e1, _⟩ := h5.k0.two))
  all_goals
    refine then_at ?_
    intro W6 hW6
    have q0 : Blk W6 w.heap.size #[.slice (some ⟨b, f, none⟩) m cb, .slice (some ⟨bl, fl, none⟩) q cl] 25 := by rw [hW6]; exact h5.k0.other (by simp; omega) _
    have q1 : Blk W6 (w.heap.size + 1) #[.slice none 0 0, .slice none 0 0] 25 := by rw [hW6]; exact h5.k1.other (by simp) _
    have q2 : Blk W6 (w.heap.size + 2) #[.slice o5 (j - i) c5, .slice none 0 0] 25 := by rw [hW6]; simpa using h5.k2.set 0 (.slice o5 (j - i) c5)
    have q3 : Blk W6 W0.heap.size #[.int .i64 (s : Int)] 3 := by rw [hW6]; exact (K3.out.drew.later l5).other (by simp; omega) _
    have q4 : OwnR 68 w.heap.size W6 (.slice o5 (j - i) c5) (((bs.drop i).take (j - i)).map fun x => (x.1, x.2.1 - (s : Int), x.2.2 - (s : Int))) := by rw [hW6]; exact (hO5.mono (by simpa using H4.out.low.size)).oth (hO5.ne_blk h5.k2 (by decide)) 0 _
    have q5 : Below w.heap.size w W6 := by rw [hW6]; exact h5.low.setCell (by simp; omega) _
    clear hW6 h5 l5 hO5 H4 K3 HG e0 e1 e3 l3 n0 n1 nl z0 z1
    obtain ⟨e0, e1, e2⟩ := q0.two
    obtain ⟨n0, n1, nl⟩ := q2.two
    obtain ⟨z0, z1⟩ := q2.z2
    have e3 := q3.cell 0
    have l3 := q3.lt
    simp only [List.getElem?_toArray, List.getElem?_cons_zero] at e3
    have hm0 : (lv.drop s).take (t - s) ≠ [] := by intro e; have := HLN.out; rw [e] at this; simp at this; omega
    have HM0 := Lib.hid hm0
    have HS6 := Lib.hid (HSL.out.later q5).drew
    have Q0 := Lib.hid q0
    have Q1 := Lib.hid q1
    have Q2 := Lib.hid q2
    have Q4 := Lib.hid q4
    have Q5 := Lib.hid q5
    clear q0 q1 q2 q3 q4 q5 hm0
    go_wp2
    go_region_law ((refine step_append_seg rfl _ _ 23 rfl .u64 W6.drew.heap.size 32 i0 (.int .u64 0) 8 Try.underlying23 hi hz0 hz1 hz2 rfl _ _ rfl (Owns.nil _ _ _ _) _ _ rfl HS6.out HM0.out (by have := HLN.out; simp at this ⊢; omega) (by have := HLN.out; simp at this ⊢; omega) (Nat.le_refl _) ?_); intro v7 w7 hO7 l7; rw [List.nil_append] at hO7; obtain ⟨o7, c7, rfl⟩ := hO7.shapeN (n := t - s) HLN.out; obtain ⟨n0, n1, nl⟩ := (Q2.out.drew.later l7).two; obtain ⟨z0, z1⟩ := (Q2.out.drew.later l7).z2)
    all_goals
      refine then_at ?_
      intro W8 hW8
      have q1 : Blk W8 (w.heap.size + 1) #[.slice none 0 0, .slice none 0 0] 25 := by rw [hW8]; exact (Q1.out.drew.later l7).other (by simp) _
      have q2 : Blk W8 (w.heap.size + 2) #[.slice o5 (j - i) c5, .slice o7 (t - s) c7] 25 := by rw [hW8]; simpa using (Q2.out.drew.later l7).set 1 (.slice o7 (t - s) c7)
      have q4 : OwnR 68 w.heap.size W8 (.slice o5 (j - i) c5) (((bs.drop i).take (j - i)).map fun x => (x.1, x.2.1 - (s : Int), x.2.2 - (s : Int))) := by rw [hW8]; exact (Q4.out.drew.later l7).oth (Q4.out.drew.later l7 |>.ne_blk (Q2.out.drew.later l7) (by decide)) 1 _
      have q6 : Owns .u64 32 w.heap.size W8 (.slice o7 (t - s) c7) ((lv.drop s).take (t - s)) := by rw [hW8]; exact (hO7.mono (by simpa using Q5.out.size)).oth (hO7.ne_blk (Q2.out.drew.later l7) (by decide)) 1 _
      have q5 : Below w.heap.size w W8 := by rw [hW8]; exact (below_later Q5.out.drew l7).setCell (by simp; omega) _
      clear hW8 l7 hO7 Q0 Q1 Q2 Q4 Q5 HS6 HM0 e0 e1 e3 l3 n0 n1 nl z0 z1
      obtain ⟨n0, n1, nl⟩ := q2.two
      obtain ⟨y0, y1, yl⟩ := q1.two
      obtain ⟨z0, z1⟩ := q1.z2
      obtain ⟨r0, r1, _⟩ := (q1.set2 (.slice o5 (j - i) c5) (.slice o7 (t - s) c7)).two
      have HR := Lib.hid (And.intro r0 r1)
      have HB := Lib.hid ((q4.oth (q4.ne_blk q1 (by decide)) 0 (.slice o5 (j - i) c5)).oth (q4.ne_blk q1 (by decide)) 1 (.slice o7 (t - s) c7))
      have HL := Lib.hid ((q6.oth (q6.ne_blk q1 (by decide)) 0 (.slice o5 (j - i) c5)).oth (q6.ne_blk q1 (by decide)) 1 (.slice o7 (t - s) c7))
      have HLO := Lib.hid ((q5.setCell (p := ⟨w.heap.size + 1, 0, none⟩) (by simp) (.slice o5 (j - i) c5)).setCell (p := ⟨w.heap.size + 1, 1, none⟩) (by simp) (.slice o7 (t - s) c7))
      clear q1 q2 q4 q5 q6 r0 r1
      go_wp2
      obtain ⟨r0, r1⟩ := HR.out
      exact bodyPost_ret (v := .agg #[.slice o5 (j - i) c5, .slice o7 (t - s) c7]) (by simp [results, Try.results61, go_sem, r0, r1]) rfl ⟨o5, j - i, c5, o7, t - s, c7, rfl, HB.out, HL.out, HLO.out⟩
end Go.Proofs.Ytjfnhjmdgfkgnaa

