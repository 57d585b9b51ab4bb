/- own of stage 11's laws: tiers in memory of the call's own; tiers.copied. -/
import Derived.Test.YtcapmhmlipmciaaW2
import Derived.Deep.RegionHeld3
import Derived.Lib.MinMax
namespace Go.Proofs.Kit
open Go.RowKit
theorem add_pos (a : Addr) (m j : Nat) (hj : j ≠ 0) : a.add (m + j) = ⟨(a.add m).block, (a.add m).off + j, none⟩ := by
  unfold Addr.add
  by_cases hm : m = 0
  · subst hm
    simp [hj]
  · simp [hm, Nat.add_assoc]
def few16 (t : Tr) : Tr := (t.1.take 16, t.2.take 16)
def ownL (L : List Tr) : List Tr := (L.take 26).map few16
theorem ownL_len (L : List Tr) : (ownL L).length ≤ 26 := by simp [ownL]; omega
theorem ownL_next {L : List Tr} {k : Nat} (hk : k < L.length) (h : k < 26) : ownL (L.take (k + 1)) = ownL (L.take k) ++ [few16 L[k]] := by
  rw [List.take_succ_eq_append_getElem hk, ownL, ownL, List.take_append, List.map_append]
  have h1 : (L.take k).length ≤ k := List.length_take_le _ _
  rw [List.take_of_length_le (l := [_]) (by simp; omega)]
  rfl
theorem ownL_stay {L : List Tr} {k : Nat} (h : ¬ k < 26) : ownL (L.take (k + 1)) = ownL (L.take k) := by
  simp only [ownL, List.take_take]
  rw [Nat.min_eq_left (by omega), Nat.min_eq_left (by omega)]
/-- append of a slice of elements, as a step of a region that draws its order. -/
theorem step_append_segE {α : Type} {E : Enc α} {P : Program} {ops : Array Oper} {w : World} {o : Oper} {a : Act} {K : Act → World → Prop} {Q : Exit → Act → World → Prop} {X : Prop} (hgd : o.guard = none) (s x : Operand) (t : TypeId)
    (ho : o.op = .call { callee := .builtin .append, args := #[s, x], argTypes := #[t, t] })
    (base : Nat) (e : TypeId) (i : TypeInfo) (z : Value) (bytes : Nat) (ht : P.underlying t = some (.slice e)) (hi : P.info? e = some i) (hz : i.zero = some z) (hsize : i.size = E.k) (hby : i.bytes = bytes) (hzs : z.cells.size = E.k)
    (v : Value) (l : List α) (hs : a.eval s = v) (hown : OwnE E e base w v l) (vx : Value) (m : List α) (hx : a.eval x = vx) (hm : SegE E w vx m) (hm0 : m ≠ [])
    (h63 : (l.length + m.length) * E.k ≤ 9223372036854775807) (hbytes : (l.length + m.length) * bytes ≤ 140737488355328) (hbase : base ≤ w.heap.size)
    (h : ∀ v' w', OwnE E e base w' v' (l ++ m) → Below base w w' → w.grownBy w' v.ownBlock → K (a.put o.dst v') w') : if Region.wanted o (yielded ops a.tmps) = true then Oper.wp P o a w K Q else X := by
  rw [if_pos (by simp [Region.wanted, hgd])]
  have hlen := len_mul E (l.length + m.length)
  rcases hm.2 with ⟨_, rfl⟩ | ⟨b, f, c, rfl, h2, h3, h4, h5⟩
  · exact (hm0 rfl).elim
  · subst hby
    have hnews : ∀ j u, (flatE E m)[j]? = some u → w.cell? ((⟨b, f, none⟩ : Addr).add j) = some u := by
      intro j u hj
      have hjn : j < m.length * E.k := by have := (List.getElem?_eq_some_iff.1 hj).1; rwa [flatE_length] at this
      have hk : j / E.k < m.length := Nat.div_lt_of_lt_mul (by rw [Nat.mul_comm]; exact hjn)
      have hr : j % E.k < E.k := Nat.mod_lt _ E.pos
      have hq : j / E.k * E.k + j % E.k = j := by rw [Nat.mul_comm]; exact Nat.div_add_mod _ _
      have hf := flatE_get (E := E) m _ _ hk hr
      rw [hq, hj] at hf
      rw [Addr.add_lit]
      have := h5 _ hk _ u hf.symm
      rw [show f + j / E.k * E.k + j % E.k = f + j by omega] at this
      exact this
    obtain ⟨v', w', hr, hO, hG, _⟩ := run_append_own (P := P) w base t o.type e i z E.k i.bytes ht hi hz hsize rfl hzs E.pos v _ _ hown.2 ⟨b, f, none⟩ m.length c (flatE E m) (flatE_length m) hnews (flatE_one m) (by unfold maxLen; omega) hbytes hbase
    unfold Oper.wp execOp
    simp only [ho, resolve, invoke, builtin, Sem.run_bind, Sem.run_pure, Result.andThen_ok, List.map_toArray, List.map_cons, List.map_nil, hs, hx, hr]
    refine h v' w' ⟨by rw [List.length_append]; exact h63, ?_⟩ ((Below.refl _ _).grown hG hbase (fun g hg => (hown.lt g hg).1)) hG
    rw [List.length_append, flatE_append]
    exact hO
/-- A row of tiers under work, whose own rows are told beside it. -/
structure OT (tp tt : TypeId) (B : Nat) (w : World) (v : Value) (l : List Ti) (L : List Tr) : Prop where
  own : OwnE tiE tt B w v l
  len : l.length = L.length
  each : ∀ i (h : i < l.length) (h' : i < L.length), OwnQ tp B w l[i] L[i]
theorem OT.later {tp tt : TypeId} {B : Nat} {w w' : World} {v : Value} {l : List Ti} {L : List Tr} (h : OT tp tt B w v l L) (hb : Below w.heap.size w w') : OT tp tt B w' v l L := ⟨h.own.later hb, h.len, fun i a b => (h.each i a b).later hb⟩
theorem OT.drew {tp tt : TypeId} {B : Nat} {w : World} {v : Value} {l : List Ti} {L : List Tr} (h : OT tp tt B w v l L) : OT tp tt B w.drew v l L := h.later (Below.refl _ _).drew
theorem OwnT.open {tp tt : TypeId} {B : Nat} {w : World} {v : Value} {L : List Tr} (h : OwnT tp tt B w v L) : ∃ l, OT tp tt B w v l L := by
  obtain ⟨l, h1, h2, h3⟩ := h
  exact ⟨l, h1, h2, h3⟩
theorem OT.t {tp tt : TypeId} {B : Nat} {w : World} {v : Value} {l : List Ti} {L : List Tr} (h : OT tp tt B w v l L) : OwnT tp tt B w v L := ⟨l, h.own, h.len, h.each⟩
/-- What lies while one tier is laid anew. -/
theorem OwnP.any {t : TypeId} {B : Nat} {w : World} {v : Value} {l : List Pr} (h : OwnP t B w v l) : ∃ o n c, v = .slice o n c := by
  obtain ⟨o, c, e⟩ := h.shape
  exact ⟨o, _, c, e⟩
structure TW (tt : TypeId) (w : World) (b : Nat) (v1 v2 : Value) (W : World) : Prop where
  k : Blk W b #[v1, v2] tt
  low : Below w.heap.size w W
theorem TW.later {tt : TypeId} {w W W' : World} {b : Nat} {v1 v2 : Value} (h : TW tt w b v1 v2 W) (hb : Below W.heap.size W W') : TW tt w b v1 v2 W' := ⟨h.k.later hb, below_later h.low hb⟩
theorem TW.drew {tt : TypeId} {w W : World} {b : Nat} {v1 v2 : Value} (h : TW tt w b v1 v2 W) : TW tt w b v1 v2 W.drew := h.later (Below.refl _ _).drew
end Go.Proofs.Kit
namespace Go.Proofs.Ytcapmhmlipmciaa
open Go.RowKit Go.Proofs.Kit
set_option maxRecDepth 100000 in
set_option maxHeartbeats 4000000 in
theorem own11_any (o : Option Addr) (n c : Nat) (L : List Tr) (w : World) (hl : L.length = n) (hc : n ≤ c) (hm : c ≤ 9223372036854775807) (h : ArgT w o c L) :
    Calls Try.prog 10 #[.slice o n c] w fun e w' => ∃ v', e = .returned v' ∧ OwnT 36 38 w.heap.size w' v' (ownL L) ∧ Below w.heap.size w w' := by
  have HL := Lib.hid hl; clear hl
  have HA := Lib.hid h; clear h
  obtain ⟨i0, hi, hz0, hz1, hz2⟩ := infoT
  have hmix := mixed
  go_enter Try.func10, Try.ntmps10
  go_wp2
  go_loopw [3, 8] (fun s3 s8 wr => ∃ k : Nat, k ≤ n ∧ s8 = .int .i64 (k : Int) ∧ Hid (OwnT 36 38 w.heap.size wr s3 (ownL (L.take k))) ∧ Hid (Below w.heap.size w wr)) (fun _ s8 _ => n - (intOf s8).toNat)
  case atStart => exact ⟨0, Nat.zero_le _, rfl, Lib.hid (OwnT.nil _ _ _ _), Lib.hid (Below.refl _ _)⟩
  case round =>
    obtain ⟨k, hk, rfl, HO, HB⟩ := hrel
    by_cases hlt : k < n
    · have hkl : k < L.length := by have := HL.out; omega
      obtain ⟨a, x, rfl, d0, d1, ⟨q1, q2, q3, q4⟩, ⟨q5, q6, q7, q8⟩⟩ := (HA.out.later HB.out).at hkl
      rw [add_pos a _ 1 (by decide)] at d1
      obtain ⟨ao, an, ac, bo, bn, bc⟩ := x
      simp only at d0 d1 q1 q2 q3 q4 q5 q6 q7 q8
      have gA := (Gr.alloc wr (.cells #[.slice ao an ac, .slice bo bn bc] 38)).below
      by_cases h26 : k < 26
      · have HN := Lib.hid (ownL_next hkl h26)
        have h26' : decide ((k : Int) < 26) = true := decide_eq_true (by omega)
        have HFA := Lib.hid (fun W (hb : Below wr.heap.size wr W) => few11_any ao an ac L[k].1 W q1 q2 q3 (q4.later hb))
        have HFB := Lib.hid (fun W (hb : Below wr.heap.size wr W) => few11_any bo bn bc L[k].2 W q5 q6 q7 (q8.later hb))
        obtain ⟨l, hot⟩ := HO.out.open
        have hlen := hot.len
        have hll : l.length ≤ 26 := by have := ownL_len (L.take k); omega
        obtain ⟨oo, cc, rfl⟩ := hot.own.shape
        obtain ⟨nl, hnl⟩ : ∃ nl, nl = l.length := ⟨_, rfl⟩
        rw [← hnl] at hot ⊢
        have HNL := Lib.hid hnl
        have hl2 : nl ≤ 26 := by omega
        clear q1 q2 q3 q4 q5 q6 q7 q8 hnl hlen hll h26
        go_wp2_with fail
        obtain ⟨W1, hW1⟩ : ∃ W1, W1 = wr.alloc (.cells #[.slice ao an ac, .slice bo bn bc] 38) := ⟨_, rfl⟩
        have tw : TW 38 wr wr.heap.size (.slice ao an ac) (.slice bo bn bc) W1 := by rw [hW1]; exact ⟨Blk.new _ _ _, gA⟩
        have hot1 : OT 36 38 w.heap.size W1 (.slice oo nl cc) l (ownL (L.take k)) := by rw [hW1]; exact hot.later gA
        rw [← hW1]
        clear hW1 gA hot d0 d1
        have c0 := tw.k.cell 0
        have c1 := tw.k.cell 1
        have lb := tw.k.lt
        simp only [List.getElem?_toArray, List.getElem?_cons_zero, List.getElem?_cons_succ] at c0 c1
        have hbw := HB.out.size
        go_region_law (first
          | (go_simp; go_at_call 22; (with_reducible refine (HFA.out _ tw.drew.low).mono ?_); rintro e wS ⟨vA, rfl, hA, bS⟩; obtain ⟨oA, nA, xA, rfl⟩ := hA.any; have hA := hA.mono (B' := w.heap.size) (by have := tw.drew.low.size; omega); have tw := tw.drew.later bS; have hot1 := hot1.drew.later bS; obtain ⟨c0, c1⟩ : wS.cell? ⟨wr.heap.size, 0, none⟩ = some (.slice ao an ac) ∧ wS.cell? ⟨wr.heap.size, 1, none⟩ = some (.slice bo bn bc) := ⟨tw.k.cell 0, tw.k.cell 1⟩; clear bS)
          | (go_simp; go_at_call 22; (with_reducible refine (HFB.out _ tw.low).mono ?_); rintro e wT ⟨vB, rfl, hB, bS⟩; obtain ⟨oB, nB, xB, rfl⟩ := hB.any; have hB := hB.mono (B' := w.heap.size) (by have := tw.low.size; omega); have hA := hA.later bS; have tw := tw.later bS; have hot1 := hot1.later bS; clear bS)
          | (refine step_append_segE (E := tiE) rfl _ _ 22 (by rfl) w.heap.size 38 i0 (.agg #[.slice none 0 0, .slice none 0 0]) 48 Try.underlying22 hi hz0 hz1 hz2 rfl _ l (by rfl) (hot1.own.later (Gr.alloc _ _).below) _ [⟨oA, nA, xA, oB, nB, xB⟩] (by rfl) (SegE.of_blk (E := tiE) (l := [⟨oA, nA, xA, oB, nB, xB⟩]) (cap := 1) (Blk.new _ _ _) (by simp) (by decide) rfl) (by simp) (by show (_ + 1) * 2 ≤ _; have := HNL.out; omega) (by show (_ + 1) * 48 ≤ _; have := HNL.out; omega) (by have := tw.low.size; simp; omega) ?_; intro v' w3 hO3 hb3 hg3))
        all_goals
          have hT : OwnT 36 38 w.heap.size w3 v' (ownL (L.take (k + 1))) := by
            rw [HN.out]
            have gA := (Gr.alloc wT (.cells #[.slice oA nA xA, .slice oB nB xB] 38)).below
            have hot2 := hot1.later gA
            exact OwnT.snoc hot2.own hot2.len hot2.each (x := ⟨oA, nA, xA, oB, nB, xB⟩) ⟨hA.later gA, hB.later gA⟩ hO3 hg3 (by decide)
          have hlow : Below w.heap.size w w3 := by
            have h1 := HB.out.trans (tw.low.mono HB.out.size)
            exact (h1.alloc h1.size _).trans hb3
          have HT := Lib.hid hT
          have HLow := Lib.hid hlow
          clear hT hlow hO3 hb3 hg3
          go_wp2
          go_roundw
          case rel => exact ⟨k + 1, by omega, by go_num, HT, HLow⟩
          case measure => simp [intOf]; omega
      · have HN := Lib.hid (ownL_stay (L := L) h26)
        have h26' : decide ((k : Int) < 26) = false := decide_eq_false (by omega)
        clear q1 q2 q3 q4 q5 q6 q7 q8 h26
        go_wp2
        go_roundw
        case rel =>
          refine ⟨k + 1, by omega, by go_num, Lib.hid ?_, Lib.hid (below_later HB.out gA)⟩
          rw [HN.out]
          exact HO.out.later gA
        case measure => simp [intOf]; omega
    · have HT := Lib.hid (show L.take k = L from List.take_of_length_le (by have := HL.out; omega))
      go_wp2
      go_ret
      rw [HT.out] at HO
      exact ⟨_, rfl, HO.out, HB.out⟩
end Go.Proofs.Ytcapmhmlipmciaa

