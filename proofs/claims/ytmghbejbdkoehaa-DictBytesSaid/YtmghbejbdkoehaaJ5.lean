/- A text's seat: the first of its slots that is free, or has it. -/
import Derived.Test.YtmghbejbdkoehaaMd
namespace Go.Proofs.Kit
open Go.RowKit
/-- What lies while a text's slots are gone over. -/
structure SI (tl tS ti : TypeId) (w : World) (vT vS : Value) (s : ByteArray) (out : Nat) (W : World) : Prop where
  k0 : Blk W w.heap.size #[vT, vS] tl
  k1 : Blk W (w.heap.size + 1) #[.string s] tS
  k2 : Blk W (w.heap.size + 2) #[.int .i64 (out : Int)] ti
  low : Below w.heap.size w W
  drn : w.drawn ≤ W.drawn
section
variable {tl tS ti : TypeId} {w : World} {vT vS : Value} {s : ByteArray} {out : Nat} {W W' : World}
theorem SI.aside {D : Nat} (h : SI tl tS ti w vT vS s out W) (ha : Aside D W W') (hD : w.heap.size ≤ D) : SI tl tS ti w vT vS s out W' :=
  ⟨ha.blk h.k0, ha.blk h.k1, ha.blk h.k2, ha.below h.low hD (Nat.le_refl _), by rw [ha.drawn]; exact h.drn⟩
theorem SI.drewN (h : SI tl tS ti w vT vS s out W) (n : Nat) : SI tl tS ti w vT vS s out (W.drewN n) :=
  ⟨h.k0, h.k1, h.k2, h.low.trans (Dr.drewN W n).below, by have := h.drn; simp [World.drewN]; omega⟩
theorem SI.set (h : SI tl tS ti w vT vS s out W) (x : Nat) : SI tl tS ti w vT vS s x (W.setCell ⟨w.heap.size + 2, 0, none⟩ (.int .i64 (x : Int))) :=
  ⟨h.k0.other (by simp) _, h.k1.other (by simp) _, h.k2.set 0 _, h.low.setCell (by simp) _, h.drn⟩
theorem SI.cells (h : SI tl tS ti w vT vS s out W) : W.cell? ⟨w.heap.size, 0, none⟩ = some vT ∧ W.cell? ⟨w.heap.size, 1, none⟩ = some vS ∧ W.cell? ⟨w.heap.size + 1, 0, none⟩ = some (.string s) ∧
    W.cell? ⟨w.heap.size + 2, 0, none⟩ = some (.int .i64 (out : Int)) ∧ W.frozen? ⟨w.heap.size + 2, 0, none⟩ = false ∧ w.heap.size + 2 < W.heap.size :=
  ⟨h.k0.cell 0, h.k0.cell 1, h.k1.cell 0, h.k2.cell 0, h.k2.frozen 0, h.k2.lt⟩
end
end Go.Proofs.Kit
namespace Go.Proofs.Ytmghbejbdkoehaa
open Go.RowKit Go.Proofs.Kit Go.Shelf
attribute [local go_sem] Oper.semAt_some

set_option maxRecDepth 100000 in
set_option maxHeartbeats 4000000 in
theorem seat_in (vT vS : Value) (T : List ByteArray) (S : List Int) (s : ByteArray) (hs : s.size ≤ 9223372036854775807) (w : World) (hT : Sl w vT (T.map Value.string)) (hS : Sl w vS (S.map (Value.int .i64)))
    (hm : S.length ≤ 1000000000) (hTl : T.length ≤ 1000000000) (hn : ∀ x ∈ S, 0 ≤ x ∧ x ≤ (T.length : Int)) (p : Nat) (hp : seatO hsh T S s = some p) :
    CallsIn Fence.wide 6 Try.prog 79 #[.agg #[vT, vS], .string s] w fun e w' => e = .returned (.int .i64 (p : Int)) ∧ Gr w w' := by
  have HT := Lib.hid hT
  have HS := Lib.hid hS
  have HN := Lib.hid hn
  have HP := Lib.hid hp
  obtain ⟨oT, cT, rfl, hcT, hmT, aT⟩ := hT.mshape
  obtain ⟨oS, cS, rfl, hcS, hmS, aS⟩ := hS.mshape
  have hm0 : 0 < S.length := Nat.lt_of_le_of_lt (Nat.zero_le _) (seatO_lt hp)
  obtain ⟨m, hm'⟩ : ∃ m, m = S.length := ⟨_, rfl⟩
  obtain ⟨q, hq'⟩ : ∃ q, q = T.length := ⟨_, rfl⟩
  rw [← hm'] at hm hm0 HS ⊢
  rw [← hq'] at hTl HT HN ⊢
  have HM := Lib.hid hm'
  have HQ := Lib.hid hq'
  have AT := Lib.hid aT
  have AS := Lib.hid aS
  clear hT hS hn hp hm' hq' aT aS hcT hcS
  refine callsIn_of_wp_marks Try.func79 rfl trivial ?_ rfl
  simp only [Try.ntmps79, List.size_toArray, List.length_cons, List.length_nil, Nat.reduceAdd, Nat.reduceSub, Array.replicate_succ, Array.replicate_zero, List.push_toArray, List.append_toArray, List.nil_append, List.cons_append]
  refine wpIn_wide.2 ?_
  go_wp2
  go_step3
  go_wp2
  go_step3
  go_wp2_with (go_at_call 87; refine (slots_any _ _ _ _).mono ?_; rintro e w' ⟨rfl, rfl⟩)
  rename_i K hK
  obtain ⟨W0, hW0⟩ : ∃ W0, W0 = (((((w.alloc (.cells #[.slice oT q cT, .slice oS m cS] 113)).alloc (.cells #[.string s] 9)).alloc (.cells #[.int .i64 0] 3)).alloc (.cells #[.slice oT q cT, .slice oS m cS] 113)).alloc (.cells #[.string s] 9)) := ⟨_, rfl⟩
  rw [← hW0]
  have G0 : Gr w W0 := by rw [hW0]; exact (((((Gr.alloc _ _).trans (Gr.alloc _ _)).trans (Gr.alloc _ _)).trans (Gr.alloc _ _)).trans (Gr.alloc _ _))
  have bx : Blk W0 (w.heap.size + 3) #[.slice oT q cT, .slice oS m cS] 113 := by
    rw [hW0]; have := (Blk.new (((w.alloc (.cells #[.slice oT q cT, .slice oS m cS] 113)).alloc (.cells #[.string s] 9)).alloc (.cells #[.int .i64 0] 3)) #[.slice oT q cT, .slice oS m cS] 113).alloc (.cells #[.string s] 9); simpa using this
  have by' : Blk W0 (w.heap.size + 4) #[.string s] 9 := by
    rw [hW0]; have := Blk.new ((((w.alloc (.cells #[.slice oT q cT, .slice oS m cS] 113)).alloc (.cells #[.string s] 9)).alloc (.cells #[.int .i64 0] 3)).alloc (.cells #[.slice oT q cT, .slice oS m cS] 113)) #[.string s] 9; simpa using this
  have I0 : SI 113 9 3 w (.slice oT q cT) (.slice oS m cS) s 0 W0 := by
    refine ⟨?_, ?_, ?_, G0.below, G0.drawn⟩ <;> rw [hW0]
    · exact ((((Blk.new w _ _).alloc _).alloc _).alloc _).alloc _
    · have := (((Blk.new (w.alloc (.cells #[.slice oT q cT, .slice oS m cS] 113)) #[.string s] 9).alloc (.cells #[.int .i64 0] 3)).alloc (.cells #[.slice oT q cT, .slice oS m cS] 113)).alloc (.cells #[.string s] 9); simpa using this
    · have := ((Blk.new ((w.alloc (.cells #[.slice oT q cT, .slice oS m cS] 113)).alloc (.cells #[.string s] 9)) #[.int .i64 0] 3).alloc (.cells #[.slice oT q cT, .slice oS m cS] 113)).alloc (.cells #[.string s] 9); simpa using this
  clear hW0
  have hseq := slots1_in 5 (by decide) (w.heap.size + 3) (w.heap.size + 4) m hm0 hm (.slice oT q cT) oS cS s hs W0 bx by'
  have hw1 : w.heap.size ≤ W0.heap.size := G0.below.size
  clear bx by'
  have HI0 := Lib.hid I0
  clear I0
  refine (wpIn_wide (n := 6)).1 ?_
  refine rangeS (α := Pl m) rfl (by decide) (gf := 94) (lb := #[.pointer (some ⟨w.heap.size + 3, 0, none⟩), .pointer (some ⟨w.heap.size + 4, 0, none⟩)]) rfl trivial (enters_of Try.func94 (by kernel_rfl) rfl) hseq (Below.refl _ _) (fun _ => rfl)
    (fun pre W => (∃ out, SI 113 9 3 w (.slice oT q cT) (.slice oS m cS) s out W) ∧ ∀ x ∈ pre, stp T S s x.1 = false)
    (fun c pre W => c = .exit 0 ∧ ∃ pre' x, pre = pre' ++ [x] ∧ SI 113 9 3 w (.slice oT q cT) (.slice oS m cS) s x.1 W ∧ (∀ y ∈ pre', stp T S s y.1 = false) ∧ stp T S s x.1 = true)
    ?low ?lowx ⟨⟨0, HI0.out⟩, by simp⟩
    (fun x => { tmps := #[.agg #[.slice oT q cT, .slice oS m cS], .string s, .pointer (some ⟨w.heap.size, 0, none⟩), .pointer (some ⟨w.heap.size + 1, 0, none⟩), .int .i64 0, .pointer (some ⟨w.heap.size + 2, 0, none⟩), .int .i64 (x.1 : Int), undef, .agg #[.slice oT q cT, .slice oS m cS], .string s, .func (.func 94) #[] #[.pointer (some ⟨w.heap.size + 3, 0, none⟩), .pointer (some ⟨w.heap.size + 4, 0, none⟩)], .int .i64 (x.1 : Int), undef, undef, undef, undef, undef, undef, undef, undef, undef, undef, undef, undef, undef, undef, undef, undef, undef, undef, undef, undef, undef], defers := [] }) ?assign ?body ?done ?stop
  case low =>
    rintro pre X X' ⟨⟨out, h1⟩, h2⟩ ha
    exact ⟨⟨out, h1.aside ha hw1⟩, h2⟩
  case lowx =>
    rintro c pre X X' ⟨h1, pre', x, h2, h3, h4⟩ ha
    exact ⟨h1, pre', x, h2, h3.aside ha hw1, h4⟩
  case assign =>
    intro l x W K hK
    gi_wp2
    exact hK
  case body =>
    rintro l pre x W ⟨⟨out, hSI⟩, hno⟩ hlen hnc
    obtain ⟨x, hx⟩ := x
    dsimp only
    have P1 := hSI.set x
    have hb2 := hnc.blk hSI.k2
    have hK1 : Keep2 W0.heap.size W (W.setCell ⟨w.heap.size + 2, 0, none⟩ (.int .i64 (x : Int))) := (Keep2.refl _ _).setCell (hnc.blk hSI.k2).1 (hnc.blk hSI.k2).2 _
    obtain ⟨c0, c1, c2, c3, z3, l3⟩ := hSI.cells
    have hxS : x < S.length := by have := HM.out; omega
    obtain ⟨bS, fS, rfl, hbS, hcS⟩ := AS.out.resolve_left (fun e => by rw [e] at hxS; simp at hxS)
    have d1 := (P1.low.cell (p := ⟨bS, fS + x, none⟩) hbS).trans (hcS x hxS)
    obtain ⟨y, hy⟩ : ∃ y, y = S[x] := ⟨_, rfl⟩
    have hyn := HN.out _ (List.getElem_mem hxS)
    have hya : at0 S x = y := by rw [at0_lt hxS, hy]
    rw [← hy] at d1 hyn
    have HY := Lib.hid hya
    have HNO := Lib.hid hno
    have HK1 := Lib.hid hK1
    have HP1 := Lib.hid P1
    clear hy hya hno hK1 P1 hSI hcS
    have q2 : (x : Int) < (m : Int) := by omega
    gi_wp2_with fail
    obtain ⟨W1, hW1⟩ : ∃ W1, W1 = W.setCell ⟨w.heap.size + 2, 0, none⟩ (.int .i64 (x : Int)) := ⟨_, rfl⟩
    rw [← hW1] at HP1 HK1 ⊢
    have n1 : NC W0.heap.size W1 := by rw [hW1]; exact hnc.setCell hb2.1 hb2.2 _
    clear hW1 c0 c1 c2 c3 z3 l3 d1
    obtain ⟨c0, c1, c2, c3, -, -⟩ := HP1.out.cells
    by_cases h0 : y = 0
    · have g0 : (y == 0) = true := by simpa using h0
      have HS0 : Hid (stp T S s x = true) := Lib.hid (by simp [stp, HY.out, h0])
      clear h0
      refine wpIn_region_quiet_round rfl (by kernel_rfl) (by kernel_rfl) (by kernel_rfl) ?_
      repeat (gi_big_quiet_step (fail))
      refine wpQuietIn_nil ?_
      intro _ hw'
      obtain ⟨nq, rfl⟩ := hw'
      gi_wp2_with fail
      exact ⟨HK1.out, rfl, pre, ⟨x, hx⟩, rfl, HP1.out.drewN nq, HNO.out, HS0.out⟩
    · have g0 : (y == 0) = false := by simpa using h0
      have hyT : (y - 1).toNat < T.length := by have := HQ.out; omega
      obtain ⟨bT, fT, rfl, hbT, hcT⟩ := AT.out.resolve_left (fun e => by rw [e] at hyT; simp at hyT)
      have d2 := (HP1.out.low.cell (p := ⟨bT, fT + (y - 1).toNat, none⟩) hbT).trans (hcT _ hyT)
      obtain ⟨z, hz⟩ : ∃ z, z = T[(y - 1).toNat] := ⟨_, rfl⟩
      rw [← hz, show (y - 1).toNat = y.toNat - 1 by omega] at d2
      have hst : stp T S s x = (z.toList == s.toList) := by
        rw [str_beq]
        simp only [stp, HY.out, h0, decide_false, Bool.false_or, List.getElem?_eq_getElem hyT, Option.some.injEq, hz]
      have HST := Lib.hid hst
      clear hz hcT hst
      have q3 : y - 1 < (q : Int) := by omega
      have q4 : (0 : Int) ≤ y - 1 := by omega
      obtain ⟨t, ht⟩ : ∃ t, t = (z.toList == s.toList) := ⟨_, rfl⟩
      have ht' : (z.toList == s.toList) = t := ht.symm
      rw [ht'] at HST
      clear ht
      refine wpIn_region_quiet_round rfl (by kernel_rfl) (by kernel_rfl) (by kernel_rfl) ?_
      repeat (gi_big_quiet_step (fail))
      refine wpQuietIn_nil ?_
      intro _ hw'
      obtain ⟨nq, rfl⟩ := hw'
      cases t
      · gi_wp2_with fail
        refine ⟨HK1.out, ⟨x, HP1.out.drewN nq⟩, fun u hu => ?_⟩
        rcases List.mem_append.1 hu with hu | hu
        · exact HNO.out u hu
        · obtain rfl : u = ⟨x, hx⟩ := by simpa using hu
          exact HST.out
      · gi_wp2_with fail
        exact ⟨HK1.out, rfl, pre, ⟨x, hx⟩, rfl, HP1.out.drewN nq, HNO.out, HST.out⟩
  case done =>
    rintro D xs W ⟨hF, hlen⟩ ⟨_, hno⟩ _ _
    exfalso
    obtain ⟨i, hi, hpi, hst, _⟩ := seatO_iff.1 HP.out
    have : p ∈ xs.map (·.1) := by
      rw [hF, hlen, List.mem_map]
      exact ⟨i, List.mem_range.2 (by rw [HM.out]; exact hi), by rw [hpi, HM.out]⟩
    obtain ⟨y, hy, rfl⟩ := List.mem_map.1 this
    have := hno y hy
    rw [hst] at this
    cases this
  case stop =>
    rintro D c pre W ⟨hF, hlen⟩ ⟨rfl, pre', x, rfl, hpi, hno, hyes⟩ hD hdef
    have hx : x.1 = p := by
      have hF' : pre'.map (·.1) ++ [x.1] = (List.range (pre'.length + 1)).map (prb (hsh s) m) := by
        unfold FirstP at hF
        simpa using hF
      rw [List.range_succ, List.map_append, List.map_cons, List.map_nil] at hF'
      obtain ⟨e1, e2⟩ := List.append_inj' hF' rfl
      have e3 : x.1 = prb (hsh s) m pre'.length := by simpa using e2
      have e := HP.out
      have hlt : pre'.length < S.length := by rw [← HM.out]; simp at hlen; omega
      rw [seatO_iff.2 ⟨pre'.length, hlt, by rw [← HM.out]; exact e3, hyes, fun j hj => ?_⟩] at e
      · exact Option.some.inj e
      · have : prb (hsh s) m j ∈ pre'.map (·.1) := by rw [e1, List.mem_map]; exact ⟨j, List.mem_range.2 hj, rfl⟩
        obtain ⟨y, hy, hy2⟩ := List.mem_map.1 this
        rw [← HM.out, ← hy2]
        exact hno y hy
    rw [hx] at hpi
    obtain ⟨-, -, -, c3, -, -⟩ := hpi.cells
    have HPI := Lib.hid hpi
    have HDEF := Lib.hid hdef
    clear hpi hdef hno hyes hF hlen hx hseq
    refine wpIn_wide.2 ?_
    go_wp2
    rw [Exit.noGoto_ret]
    refine ⟨by simp, .inl ⟨_, _, rfl, run_takeDeferred (w := W) HDEF.out, ?_⟩⟩
    exact ⟨.int .i64 (p : Int), by simp [results, Try.results79, go_sem], rfl, Gr.of_below (HPI.out.low.trans (below_put' _ _ (by omega))) HPI.out.drn⟩
theorem seat_any (vT vS : Value) (T : List ByteArray) (S : List Int) (s : ByteArray) (hs : s.size ≤ 9223372036854775807) (w : World) (hT : Sl w vT (T.map Value.string)) (hS : Sl w vS (S.map (Value.int .i64)))
    (hm : S.length ≤ 1000000000) (hTl : T.length ≤ 1000000000) (hn : ∀ x ∈ S, 0 ≤ x ∧ x ≤ (T.length : Int)) (p : Nat) (hp : seatO hsh T S s = some p) :
    Calls Try.prog 79 #[.agg #[vT, vS], .string s] w fun e w' => e = .returned (.int .i64 (p : Int)) ∧ Gr w w' :=
  callsIn_wide.1 (seat_in vT vS T S s hs w hT hS hm hTl hn p hp)
end Go.Proofs.Ytmghbejbdkoehaa

