/- Read. -/
import Derived.Test.YtoajaacdhkknfaaDoorX17
import Derived.Test.YtoajaacdhkknfaaDoorX18
import Derived.BigQuiet
namespace Go.Proofs.Kit
open Go.RowKit
theorem Aside.ownE {α : Type} {E : Enc α} {D : Nat} {X X' : World} (h : Aside D X X') {t : TypeId} {B : Nat} {v : Value} {l : List α} (ho : OwnE E t B X v l) : OwnE E t B X' v l := by
  refine ho.same fun g hg => ?_
  rcases ho.2.2 with ⟨rfl, _⟩ | ⟨g', cap, cur, rfl, _, hb, _⟩
  · simp [Value.ownBlock] at hg
  · simp [Value.ownBlock] at hg
    subst hg
    exact h.same _ (h.ne hb).1 (h.ne hb).2 (Array.getElem?_eq_some_iff.1 hb).1
theorem NC.ownE {α : Type} {E : Enc α} {D : Nat} {W : World} (hn : NC D W) {t : TypeId} {B : Nat} {v : Value} {l : List α} (ho : OwnE E t B W v l) : ∀ r, v.ownBlock = some r → r ≠ D ∧ r ≠ D + 1 := by
  intro g hg
  rcases ho.2.2 with ⟨rfl, _⟩ | ⟨g', cap, cur, rfl, _, hb, _⟩
  · simp [Value.ownBlock] at hg
  · simp [Value.ownBlock] at hg
    subst hg
    exact ⟨fun e => hn.2 g' _ _ _ (.inl e) hb, fun e => hn.2 g' _ _ _ (.inr e) hb⟩
theorem ch_new (w : World) (t : TypeId) (c : Chg) : ∀ j u, (flatE chgE [c])[j]? = some u → (w.alloc (.cells #[.int .i64 c.kind, .string c.key, .string c.name, .string c.val, .string c.to] t)).cell? ((⟨w.heap.size, 0, none⟩ : Addr).add j) = some u := by
  intro j u hj
  rw [Addr.add_lit, Nat.zero_add, (Blk.new w _ t).cell]
  simpa [flatE, chgE, cc] using hj
theorem Blk.put_d {w : World} {b D : Nat} {vs : Array Value} {t : TypeId} {x : Option (List Deferred)} (h : Blk w b vs t) (o : Obj) (hD : w.heap[D]? = some (.deferred x)) : Blk (w.putObj D o) b vs t := by
  have hne : b ≠ D := by
    rintro rfl
    have h' : w.heap[b]? = _ := h
    rw [hD] at h'
    cases h'
  exact (World.putObj_heap_other hne).trans h
theorem wpIn_scope {n : Nat} {P : Program} {c : Code} {Q : Exit → Act → World → Prop} {a : Act} {w : World} (h : c.wpIn Fence.wide n P (Exit.noGoto Q) a w) : (Code.scope c).wpIn Fence.wide n P Q a w := wpIn_wide.2 (wp_scope_straight (wpIn_wide.1 h))
theorem OwnE.put {α : Type} {E : Enc α} {W : World} {t : TypeId} {B D n : Nat} {v : Value} {l : List α} {x : Option (List Deferred)} (ho : OwnE E t B W v l) (hD : W.heap[D]? = some (.deferred x)) (o : Obj) : OwnE E t B ((W.drewN n).putObj D o) v l := by
  refine ho.same fun g hg => World.putObj_heap_other ?_
  rintro rfl
  rcases ho.2.2 with ⟨rfl, _⟩ | ⟨g', cap, cur, rfl, _, hb, _⟩
  · simp [Value.ownBlock] at hg
  · simp [Value.ownBlock] at hg
    subst hg
    rw [hD] at hb
    cases hb
theorem below_putN {w W : World} {B D n : Nat} (h : Below B w W) (o : Obj) (hD : B ≤ D) : Below B w ((W.drewN n).putObj D o) := (below_drN h n).trans (below_put' _ _ hD)
/-- What holds between two lines. -/
structure RI (tS tC tE tg : TypeId) (w : World) (s : ByteArray) (pre : List (List UInt8 × Bool)) (v : Value) (acc : List Chg) (e : Int) (W : World) : Prop where
  bA : Blk W w.heap.size #[v] tS
  bE : Blk W (w.heap.size + 1) #[.int .i64 e] tE
  bX : Blk W (w.heap.size + 2) #[.string s] tg
  ow : OwnE chgE tC w.heap.size W v acc
  low : Below w.heap.size w W
  len : acc.length ≤ 64
def GoesR (pre : List (List UInt8 × Bool)) (acc : List Chg) : Prop := ∀ rest, readR [] (pre ++ rest) = readR acc rest
def EndsR (pre : List (List UInt8 × Bool)) (acc : List Chg) (e : Int) : Prop := (e = 3 ∧ ∀ rest, readR [] (pre ++ rest) = ([], 0, 3)) ∨ (e = 191 ∧ ∀ rest, readR [] (pre ++ rest) = ([], (acc.length : Int) + 1, 191))
section
variable {tS tC tE tg : TypeId} {w W W' : World} {s : ByteArray} {pre pre' : List (List UInt8 × Bool)} {v : Value} {acc : List Chg} {e : Int}
theorem RI.later (h : RI tS tC tE tg w s pre v acc e W) (hb : Below W.heap.size W W') : RI tS tC tE tg w s pre v acc e W' := ⟨h.bA.later hb, h.bE.later hb, h.bX.later hb, h.ow.later hb, below_later h.low hb, h.len⟩
theorem RI.aside {D : Nat} (h : RI tS tC tE tg w s pre v acc e W) (ha : Aside D W W') (hD : w.heap.size ≤ D) : RI tS tC tE tg w s pre v acc e W' := ⟨ha.blk h.bA, ha.blk h.bE, ha.blk h.bX, ha.ownE h.ow, ha.below h.low hD (Nat.le_refl _), h.len⟩
theorem RI.as (h : RI tS tC tE tg w s pre v acc e W) : RI tS tC tE tg w s pre' v acc e W := ⟨h.bA, h.bE, h.bX, h.ow, h.low, h.len⟩
theorem RI.stop (h : RI tS tC tE tg w s pre v acc e W) (u : Int) (o : Obj) (ht : tC ≠ tE) : RI tS tC tE tg w s pre v acc u ((W.setCell ⟨w.heap.size + 1, 0, none⟩ (.int .i64 u)).alloc o) :=
  ⟨(h.bA.other (by simp) _).alloc _, (h.bE.set 0 _).alloc _, (h.bX.other (by simp) _).alloc _, (h.ow.other (h.ow.ne_blk h.bE ht) 0 _).alloc _, (h.low.setCell (by simp) _).alloc (by have := h.low.size; simp; omega) _, h.len⟩
theorem RI.push {v' : Value} {c : Chg} {w5 : World} (h : RI tS tC tE tg w s pre v acc e W) (hown : OwnE chgE tC w.heap.size w5 v' (acc ++ [c])) (hg : W.grownBy w5 v.ownBlock) (hl : acc.length < 64) (h1 : tC ≠ tS) (h2 : tC ≠ tE) (h3 : tC ≠ tg) :
    RI tS tC tE tg w s pre' v' (acc ++ [c]) e (w5.setCell ⟨w.heap.size, 0, none⟩ v') := by
  have a5 := h.bA.grown hg (h.ow.ne_blk h.bA h1)
  exact ⟨a5.set 0 _, (h.bE.grown hg (h.ow.ne_blk h.bE h2)).other (by simp) _, (h.bX.grown hg (h.ow.ne_blk h.bX h3)).other (by simp) _, hown.other (hown.ne_blk a5 h1) 0 _, (h.low.grown hg h.low.size (fun k hk => (h.ow.lt k hk).1)).setCell (Nat.le_refl _) _, by simp; omega⟩
end
end Go.Proofs.Kit
namespace Go.Proofs.YtoajaacdhkknfaaDoor
open Go.RowKit Go.Proofs.Kit Go.Shelf
attribute [local go_sem] Oper.semAt_some
set_option maxRecDepth 100000 in
set_option maxHeartbeats 8000000 in
theorem read_in (s : ByteArray) (hs : s.size ≤ 100000) (m : Int) (w : World) (hm : w.cell? ⟨0, 0, none⟩ = some (.int .i64 m)) :
    CallsIn Fence.wide 6 Tryd.prog 5 #[.string s] w fun e w' => ∃ v', e = .returned (.tuple #[v', .int .i64 (readS (bl s)).2.1, .int .i64 (readS (bl s)).2.2]) ∧ OwnE chgE 31 w.heap.size w' v' (readS (bl s)).1 ∧ Below w.heap.size w w' := by
  obtain ⟨i0, hi, hz0, hz1, hz2⟩ := infoC
  have HM := Lib.hid hm
  clear hm
  refine callsIn_of_wp_marks Tryd.func5 rfl trivial ?_ rfl
  simp only [Tryd.ntmps5, List.size_toArray, List.length_cons, List.length_nil, Nat.reduceAdd, Nat.reduceSub, Array.replicate_succ, Array.replicate_zero, List.push_toArray, List.append_toArray, List.nil_append, List.cons_append]
  gi_wp2_with fail
  refine wpIn_scope ?_
  gi_wp2_with fail
  refine wpIn_label ?_
  gi_wp2_with fail
  refine ⟨trivial, (callsIn_wide.2 (lines_any s _)).mono ?_⟩
  rintro e w1 ⟨rfl, rfl⟩
  gi_wp2_with fail
  obtain ⟨W0, hW0⟩ : ∃ W0, W0 = ((w.alloc (.cells #[.slice none 0 0] 23)).alloc (.cells #[.int .i64 0] 24)).alloc (.cells #[.string s] 9) := ⟨_, rfl⟩
  have hs0 : W0.heap.size = w.heap.size + 3 := by rw [hW0]; simp
  have fA : Blk W0 w.heap.size #[.slice none 0 0] 23 := by rw [hW0]; exact ((Blk.new _ _ _).alloc _).alloc _
  have fE : Blk W0 (w.heap.size + 1) #[.int .i64 0] 24 := by rw [hW0]; have := (Blk.new (w.alloc (.cells #[.slice none 0 0] 23)) #[.int .i64 0] 24).alloc (.cells #[.string s] 9); simpa using this
  have fX : Blk W0 (w.heap.size + 2) #[.string s] 9 := by rw [hW0]; have := Blk.new ((w.alloc (.cells #[.slice none 0 0] 23)).alloc (.cells #[.int .i64 0] 24)) #[.string s] 9; simpa using this
  have fL : Below w.heap.size w W0 := by rw [hW0]; exact (((Gr.alloc _ _).trans (Gr.alloc _ _)).trans (Gr.alloc _ _)).below
  rw [← hW0]
  have I0 : RI 23 31 24 9 w s [] (.slice none 0 0) [] 0 W0 := ⟨fA, fE, fX, OwnE.nil _ _ _ _, fL, by simp⟩
  have hN : 0 < w.heap.size := World.block_lt_of_cell? _ _ HM.out
  have HI0 := Lib.hid I0
  have HS0 := Lib.hid hs0
  clear fA fE fX hs0 hW0
  have hgr : ∀ pre X, (∃ v acc, RI 23 31 24 9 w s pre v acc 0 X ∧ GoesR pre acc ∧ acc.length = pre.length) → KY 9 0 (w.heap.size + 2) s m X := by
    rintro pre X ⟨v, acc, h, _⟩
    exact ⟨h.bX, (h.low.cell (p := ⟨0, 0, none⟩) hN).trans HM.out⟩
  refine rangeG (α := List UInt8 × Bool) rfl (by decide) (gf := 17) (lb := #[.pointer (some ⟨w.heap.size + 1 + 1, 0, none⟩)]) rfl trivial (enters_of Tryd.func17 (by kernel_rfl) rfl) (lines1_in 5 (by decide) (w.heap.size + 2) s m (by omega)) (fun _ => rfl)
    (fun pre W => ∃ v acc, RI 23 31 24 9 w s pre v acc 0 W ∧ GoesR pre acc ∧ acc.length = pre.length)
    (fun c pre W => c = .exit 0 ∧ ∃ v acc e, RI 23 31 24 9 w s pre v acc e W ∧ EndsR pre acc e) ?i1 ?i2 hgr ?i3 ?i4
    (fun x r => { tmps := #[.string s, undef, .slice none 0 0, .int .i64 0, .int .i64 0, .pointer (some ⟨w.heap.size, 0, none⟩), .pointer (some ⟨w.heap.size + 1, 0, none⟩), .string (lb x.1), .bool x.2, undef, undef, .string s, .func (.func 17) #[] #[.pointer (some ⟨w.heap.size + 1 + 1, 0, none⟩)], .string (lb x.1), .bool x.2, undef, undef, undef, undef, undef, undef, undef, undef, undef, undef, undef, undef, undef, undef, undef, undef, undef, undef, undef, undef, undef, undef, undef, undef, undef, undef, undef, undef, undef, undef, undef, undef, undef], defers := [] })
    (fun _ _ _ => True) (fun _ _ _ _ _ _ => trivial) ?assign ?body ?done ?stop
  case i1 =>
    rintro pre X X' ⟨v, acc, h, h2⟩ ha
    exact ⟨v, acc, h.aside ha (by have := HS0.out; omega), h2⟩
  case i2 =>
    rintro c pre X X' ⟨h1, v, acc, e, h, h2⟩ ha
    exact ⟨h1, v, acc, e, h.aside ha (by have := HS0.out; omega), h2⟩
  case i3 =>
    rintro pre X X' ⟨v, acc, h, h2⟩ hb
    exact ⟨v, acc, h.later hb, h2⟩
  case i4 => exact ⟨_, _, HI0.out, fun _ => rfl, rfl⟩
  case assign =>
    intro l x W K hK
    gi_wp2
    exact hK _ _ (Below.refl _ _) (Nat.le_refl _) trivial
  case body =>
    rintro lp pre ⟨ln, en⟩ r W ⟨v, acc, hI, hgo, hal⟩ hlen hG hn -
    obtain ⟨o, cp, rfl⟩ := hI.ow.shape
    have HI := Lib.hid hI
    have HGO := Lib.hid hgo
    have HN := Lib.hid hn
    dsimp only at hG
    have HG := Lib.hid hG
    clear hI hgo hn hG
    gi_wp2_with fail
    refine ⟨trivial, (CallsIn.inRound lp (callsIn_wide.2 (said_any (lb ln) (by rw [lb_size]; have := HG.out; omega) W))).mono ?_⟩
    rw [bl_lb]
    obtain ⟨so, hso⟩ : ∃ so, so = saysO ln := ⟨_, rfl⟩
    rw [← hso]
    have HSO := Lib.hid hso
    clear hso
    rintro e w2 ⟨rfl, b2⟩
    have hk2 := Keep2.of_below b2 HN.out
    have I2 := HI.out.later b2
    have n2 := HN.out.below b2
    obtain ⟨c, hc⟩ : ∃ c, c = so.getD Chg.zero := ⟨_, rfl⟩
    rw [← hc]
    have HC := Lib.hid hc
    clear hc
    obtain ⟨ck, key, nm, vl, tt⟩ := c
    have c5 := I2.bA.cell 0
    have c6 := I2.bE.cell 0
    have z6 := I2.bE.frozen 0
    have z5 := I2.bA.frozen 0
    have l5 := I2.bA.lt
    have l6 := I2.bE.lt
    simp only [List.getElem?_toArray, List.getElem?_cons_zero] at c5 c6
    have HI2 := Lib.hid I2
    have HK2 := Lib.hid hk2
    have HN2 := Lib.hid n2
    obtain ⟨na, hna⟩ : ∃ na, na = acc.length := ⟨_, rfl⟩
    rw [← hna] at c5
    have HNA := Lib.hid hna
    have hna64 : na ≤ 64 := by rw [hna]; exact I2.len
    clear I2 hk2 n2 hna b2
    by_cases h64 : na = 64
    · subst h64
      gi_wp2_with fail
      have n6 := HN2.out.blk HI2.out.bE
      refine ⟨(HK2.out.setCell n6.1 n6.2 _).alloc (by have := HN2.out.1; simpa using this) _, rfl, _, acc, 3, (HI2.out.stop 3 _ (by decide)).as, .inl ⟨rfl, fun rest => ?_⟩⟩
      rw [List.append_assoc, HGO.out]
      exact readR_full HNA.out.symm
    · have e0 : ((na : Int) == 64) = false := by simp; omega
      have hne : acc.length ≠ 64 := by rw [← HNA.out]; exact h64
      rcases so with _ | c
      · gi_wp2_with fail
        have n6 := HN2.out.blk HI2.out.bE
        refine ⟨(HK2.out.setCell n6.1 n6.2 _).alloc (by have := HN2.out.1; simpa using this) _, rfl, _, acc, 191, (HI2.out.stop 191 _ (by decide)).as, .inr ⟨rfl, fun rest => ?_⟩⟩
        rw [List.append_assoc, HGO.out]
        exact readR_no hne (.inl HSO.out.symm)
      · cases en
        · gi_wp2_with fail
          have n6 := HN2.out.blk HI2.out.bE
          refine ⟨(HK2.out.setCell n6.1 n6.2 _).alloc (by have := HN2.out.1; simpa using this) _, rfl, _, acc, 191, (HI2.out.stop 191 _ (by decide)).as, .inr ⟨rfl, fun rest => ?_⟩⟩
          rw [List.append_assoc, HGO.out]
          exact readR_no hne (.inr rfl)
        · have hl : acc.length ≤ 64 := HI2.out.len
          obtain ⟨w4, hw4⟩ : ∃ w4, w4 = (w2.alloc (.cells #[.int .i64 ck, .string key, .string nm, .string vl, .string tt] 31)) := ⟨_, rfl⟩
          have hO2 : World.ownsRow (w4.alloc (.cells #[.int .i64 ck, .string key, .string nm, .string vl, .string tt] 31)) w.heap.size 31 5 (.slice o acc.length cp) acc.length (flatE chgE acc) := by rw [hw4]; exact ((HI2.out.ow.alloc _).alloc _).2
          have hCN := ch_new w4 31 ⟨ck, key, nm, vl, tt⟩
          rw [show w4.heap.size = w2.heap.size + 1 by rw [hw4]; simp] at hCN
          rw [hw4] at hO2 hCN
          rw [← HNA.out] at hO2
          have HO2 := Lib.hid hO2
          have HCN := Lib.hid hCN
          clear hO2 hCN hw4 w4
          gi_wp2_with (gi_at_builtin; refine wpListIn_append_own _ rfl _ _ 23 rfl w.heap.size 31 i0 (CV Chg.zero) 5 72 Tryd.underlying23 hi hz0 hz1 hz2 rfl (by decide) _ _ _ rfl HO2.out ⟨w2.heap.size + 1, 0, none⟩ 1 1 (flatE chgE [⟨ck, key, nm, vl, tt⟩]) rfl rfl HCN.out (flatE_one _) ?qc3 ?qc4 ?qc5 ?_)
          case qc3 => unfold maxLen; omega
          case qc4 => omega
          case qc5 => have := HI2.out.low.size; simp; omega
          intro v' w5 hown hgrow _
          have hO : OwnE chgE 31 w.heap.size w5 v' (acc ++ [⟨ck, key, nm, vl, tt⟩]) := by
            refine ⟨by rw [List.length_append]; show (acc.length + 1) * 5 ≤ _; omega, ?_⟩
            rw [List.length_append, flatE_append, ← HNA.out]
            exact hown
          rw [HNA.out] at hgrow
          obtain ⟨o5, c5', rfl⟩ := hO.shape
          obtain ⟨n5, hn5⟩ : ∃ n, n = (acc ++ [(⟨ck, key, nm, vl, tt⟩ : Chg)]).length := ⟨_, rfl⟩
          have gr2 := ((Gr.alloc w2 (.cells #[.int .i64 ck, .string key, .string nm, .string vl, .string tt] 31)).trans (Gr.alloc _ (.cells #[.int .i64 ck, .string key, .string nm, .string vl, .string tt] 31))).below
          have I6 := HI2.out.later gr2
          have k6 := Keep2.of_below gr2 HN2.out
          have n6 := HN2.out.below gr2
          have k7 := (HK2.out.trans k6).trans (.of_grown hgrow n6 (n6.ownE I6.ow))
          have a7 := HN2.out.blk HI2.out.bA
          have P6 : RI 23 31 24 9 w s (pre ++ [(ln, true)]) _ _ 0 _ := I6.push hO hgrow (by omega) (by decide) (by decide) (by decide)
          have b5 := I6.bA.grown hgrow (I6.ow.ne_blk I6.bA (by decide))
          have d5 := b5.cell 0
          have y5 := b5.frozen 0
          have x5 := b5.lt
          simp only [List.getElem?_toArray, List.getElem?_cons_zero] at d5
          rw [← hn5] at P6 ⊢
          have HN5 := Lib.hid hn5
          have HP6 := Lib.hid P6
          have HK7 := Lib.hid (k7.setCell (p := ⟨w.heap.size, 0, none⟩) a7.1 a7.2 (.slice o5 n5 c5'))
          clear hO hown hgrow gr2 I6 k6 n6 k7 a7 P6 b5 hn5
          gi_wp2_with fail
          refine ⟨HK7.out, _, _, HP6.out, fun rest => ?_, by rw [List.length_append, List.length_append, hal]; rfl⟩
          rw [List.append_assoc, HGO.out]
          have := HC.out
          rw [show (⟨ck, key, nm, vl, tt⟩ : Chg) = c from this]
          exact readR_yes hne HSO.out.symm
  case done =>
    rintro D ys W rfl ⟨v, acc, hI, hgo, hal⟩ hD hK
    obtain ⟨o, cp, rfl⟩ := hI.ow.shape
    have c5 := hI.bA.cell 0
    have c6 := hI.bE.cell 0
    have l5 := hI.bA.lt
    have l6 := hI.bE.lt
    simp only [List.getElem?_toArray, List.getElem?_cons_zero] at c5 c6
    have hR := hgo []
    rw [List.append_nil] at hR
    have HI := Lib.hid hI
    have HK := Lib.hid hK
    have HR := Lib.hid hR
    clear hI hgo hK hR hal
    gi_wp2_with fail
    refine wpIn_wide.2 ?_
    go_quiet (fail)
    gi_wp2_with fail
    refine ⟨by simp, .inl ⟨_, _, rfl, run_takeDeferred (w := W.drewN nq) HK.out, ?_⟩⟩
    have hd' : w.heap.size ≤ D := by have := HS0.out; omega
    have hr' : readS (bl s) = (acc, (acc.length : Int), 0) := HR.out
    rw [hr']
    exact ⟨_, by simp [results, Tryd.results5], _, rfl, HI.out.ow.put HK.out _, below_putN HI.out.low _ hd'⟩
  case stop =>
    rintro D c pre W ⟨r, hr⟩ ⟨rfl, v, acc, e, hI, hE⟩ hD hK
    obtain ⟨o, cp, rfl⟩ := hI.ow.shape
    have c5 := hI.bA.cell 0
    have c6 := hI.bE.cell 0
    have l5 := hI.bA.lt
    have l6 := hI.bE.lt
    simp only [List.getElem?_toArray, List.getElem?_cons_zero] at c5 c6
    have HI := Lib.hid hI
    have HK := Lib.hid hK
    clear hI hK
    rcases hE with ⟨rfl, hR⟩ | ⟨rfl, hR⟩
    · have hR' := hR r
      rw [← hr] at hR'
      have HR := Lib.hid hR'
      clear hR hR'
      gi_wp2_with fail
      refine wpIn_wide.2 ?_
      go_quiet (fail)
      gi_wp2_with fail
      refine ⟨by simp, .inl ⟨_, _, rfl, run_takeDeferred (w := W.drewN nq) HK.out, ?_⟩⟩
      have hd' : w.heap.size ≤ D := by have := HS0.out; omega
      have hr' : readS (bl s) = ([], 0, 3) := HR.out
      rw [hr']
      exact ⟨_, by simp [results, Tryd.results5], _, rfl, OwnE.nil _ _ _ _, below_putN HI.out.low _ hd'⟩
    · have hR' := hR r
      rw [← hr] at hR'
      have HR := Lib.hid hR'
      clear hR hR'
      gi_wp2_with fail
      refine wpIn_wide.2 ?_
      go_quiet (fail)
      gi_wp2_with fail
      refine ⟨by simp, .inl ⟨_, _, rfl, run_takeDeferred (w := W.drewN nq) HK.out, ?_⟩⟩
      have hd' : w.heap.size ≤ D := by have := HS0.out; omega
      have hr' : readS (bl s) = ([], (acc.length : Int) + 1, 191) := HR.out
      have hw : wrap64 ((acc.length : Int) + 1) = (acc.length : Int) + 1 := by have := HI.out.len; unfold wrap64; omega
      rw [hr', hw]
      exact ⟨_, by simp [results, Tryd.results5], _, rfl, OwnE.nil _ _ _ _, below_putN HI.out.low _ hd'⟩
theorem readC_any (s : ByteArray) (hs : s.size ≤ 100000) (m : Int) (w : World) (hm : w.cell? ⟨0, 0, none⟩ = some (.int .i64 m)) :
    Calls Tryd.prog 5 #[.string s] w fun e w' => ∃ v', e = .returned (.tuple #[v', .int .i64 (readS (bl s)).2.1, .int .i64 (readS (bl s)).2.2]) ∧ OwnE chgE 31 w.heap.size w' v' (readS (bl s)).1 ∧ Below w.heap.size w w' := callsIn_wide.1 (read_in s hs m w hm)
end Go.Proofs.YtoajaacdhkknfaaDoor

