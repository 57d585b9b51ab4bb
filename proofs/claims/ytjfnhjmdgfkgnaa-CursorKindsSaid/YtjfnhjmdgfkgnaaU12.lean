/- trie.down, walked. -/
import Derived.Test.YtjfnhjmdgfkgnaaU11
import Derived.Laws.EntriesVeiled
namespace Go.Proofs.Kit
open Go.RowKit
/-- The world under a name. -/
theorem then_at {K : Act → World → Prop} {R : Exit → Act → World → Prop} {a : Act} {W : World} (h : ∀ W', W' = W → Exit.then K R .normal a W') : Exit.then K R .normal a W := h W rfl
theorem Seg.ne {k : IntKind} {w : World} {v : Value} {l : List Int} (h : Seg k w v l) {g : Nat} (hg : w.heap.size ≤ g) : v.ownBlock ≠ some g := by
  rcases h.2 with ⟨rfl, _⟩ | ⟨b, off, cap, rfl, _, _, h4, _⟩
  · simp [Value.ownBlock]
  · simp [Value.ownBlock]; omega
theorem Seg.oth {k : IntKind} {w : World} {v : Value} {l : List Int} (h : Seg k w v l) {g : Nat} (hg : v.ownBlock ≠ some g) (i : Nat) (u : Value) : Seg k (w.setCell ⟨g, i, none⟩ u) v l :=
  ((But.refl g w).set i u).seg h (fun b hb e => hg (by rw [hb, e]))
theorem pathRow_none {bs : List Br} {lv P : List Int} (hP : P.length ≤ 2) {k : Nat} (hk : k < P.length) (h : pathRow bs lv (P.take (k + 1)) = none) : pathRow bs lv P = none := by
  by_cases e : k + 1 = P.length
  · rwa [e, List.take_length] at h
  · match P, hP, hk, h with
    | [a, b], _, hk, h =>
      obtain rfl : k = 0 := by simp at hk e; omega
      simp only [List.take_succ_cons, List.take_zero, pathRow] at h
      split at h
      · cases h
      · rename_i ha
        rw [pathRow, if_neg (fun h => ha h.1)]
    | [a], _, hk, _ => simp at hk e; omega
/-- A row of numbers that is read at its places alone. -/
def PathAt (w : World) (op : Option Addr) (P : List Int) : Prop := ∀ i (h : i < P.length), ∃ a, op = some a ∧ w.cell? (a.add i) = some (.int .u64 P[i])
theorem PathAt.later {w w' : World} {op : Option Addr} {P : List Int} (h : PathAt w op P) (hb : Below w.heap.size w w') : PathAt w' op P := fun i hi => by
  obtain ⟨a, e, h1⟩ := h i hi
  exact ⟨a, e, (hb.cell (World.block_lt_of_cell? _ _ h1)).trans h1⟩
/-- What down holds between two rounds. -/
structure DH (tT tl tv : TypeId) (F0 F1 : Value) (w : World) (A : Nat) (ob : Option Addr) (m cb : Nat) (ol : Option Addr) (q cl : Nat) (orw : Option Addr) (n cr : Nat) (r : List Int) (W : World) : Prop where
  k1 : Blk W (w.heap.size + 1) #[.slice none 0 0, .slice none 0 0, .slice none 0 0] tl
  k2 : Blk W (w.heap.size + 2) #[F0, F1] tv
  kA : Blk W A #[.slice ob m cb, .slice ol q cl, .slice orw n cr] tl
  seg : Seg .u64 W (.slice orw n cr) r
  ne : (Value.slice orw n cr).ownBlock ≠ some (w.heap.size + 1)
  hA : w.heap.size + 2 < A
  low : Below w.heap.size w W
section
variable {tT tl tv : TypeId} {F0 F1 : Value} {w W W' : World} {A : Nat} {ob : Option Addr} {m cb : Nat} {ol : Option Addr} {q cl : Nat} {orw : Option Addr} {n cr : Nat} {r : List Int}
theorem DH.later (h : DH tT tl tv F0 F1 w A ob m cb ol q cl orw n cr r W) (hb : Below W.heap.size W W') : DH tT tl tv F0 F1 w A ob m cb ol q cl orw n cr r W' :=
  ⟨h.k1.later hb, h.k2.later hb, h.kA.later hb, h.seg.later hb, h.ne, h.hA, below_later h.low hb⟩
theorem DH.drew (h : DH tT tl tv F0 F1 w A ob m cb ol q cl orw n cr r W) : DH tT tl tv F0 F1 w A ob m cb ol q cl orw n cr r W.drew := h.later (Below.refl _ _).drew
theorem DH.alloc (h : DH tT tl tv F0 F1 w A ob m cb ol q cl orw n cr r W) (o : Obj) : DH tT tl tv F0 F1 w A ob m cb ol q cl orw n cr r (W.alloc o) := h.later ((Below.refl _ _).alloc (Nat.le_refl _) _)
end
end Go.Proofs.Kit
namespace Go.Proofs.Ytjfnhjmdgfkgnaa
open Go.RowKit Go.Proofs.Kit
abbrev FB : Value := .func (.func 83) #[] #[]
abbrev FL : Value := .func (.func 84) #[] #[]
set_option maxRecDepth 100000 in
set_option maxHeartbeats 8000000 in
theorem down_ok (ob : Option Addr) (m cb : Nat) (ol : Option Addr) (q cl : Nat) (bs : List Br) (lv : List Int) (op : Option Addr) (np cp : Nat) (P : List Int) (w : World) (hb : SegR w (.slice ob m cb) bs) (hl : Seg .u64 w (.slice ol q cl) lv) (hok : ok7 bs lv)
    (hm : bs.length = m) (hq : lv.length = q) (hml : m ≤ 100000) (hql : q ≤ 100000) (hp : PathAt w op P) (hnp : P.length = np) (h2 : np ≤ 2) :
    Calls Try.prog 55 #[.agg #[.slice ob m cb, .slice ol q cl], .slice op np cp] w (StepP bs lv P ob m cb ol q cl w) := by
  have HB := Lib.hid hb
  have HL := Lib.hid hl
  have HOK := Lib.hid hok
  have HM := Lib.hid hm
  have HQ := Lib.hid hq
  have HP := Lib.hid hp
  have HNP := Lib.hid hnp
  have hg1 : decide (2 < np) = false := by simp; omega
  have hg2 : decide ((2 : Int) < (np : Int)) = false := by simp; omega
  have HMB := Lib.hid (fun W (g : Below w.heap.size w W) => mayBe_any (.slice ob m cb) (.slice ol q cl) bs lv W (hb.later g) (hl.later g) (by omega) (by omega))
  rw [decide_eq_true hok] at HMB
  clear hb hl hok hm hq hp hnp
  go_enter Try.func55, Try.ntmps55
  go_wp2_with fail
  obtain ⟨W0, hW0⟩ : ∃ W0, W0 = ((w.alloc (.cells #[.slice ob m cb, .slice ol q cl] 25)).alloc (.cells #[.slice none 0 0, .slice none 0 0, .slice none 0 0] 92)).alloc (.cells #[FB, FL] 124) := ⟨_, rfl⟩
  have G0 : Gr w W0 := by rw [hW0]; exact ((Gr.alloc _ _).trans (Gr.alloc _ _)).trans (Gr.alloc _ _)
  have b0 : Blk W0 w.heap.size #[.slice ob m cb, .slice ol q cl] 25 := by rw [hW0]; exact ((Blk.new _ _ _).alloc _).alloc _
  have b1 : Blk W0 (w.heap.size + 1) #[.slice none 0 0, .slice none 0 0, .slice none 0 0] 92 := by rw [hW0]; have := (Blk.new (w.alloc (.cells #[.slice ob m cb, .slice ol q cl] 25)) #[.slice none 0 0, .slice none 0 0, .slice none 0 0] 92).alloc (.cells #[FB, FL] 124); simpa using this
  have b2 : Blk W0 (w.heap.size + 2) #[FB, FL] 124 := by rw [hW0]; have := Blk.new ((w.alloc (.cells #[.slice ob m cb, .slice ol q cl] 25)).alloc (.cells #[.slice none 0 0, .slice none 0 0, .slice none 0 0] 92)) #[FB, FL] 124; simpa using this
  rw [← hW0]
  clear hW0
  refine (HMB.out W0 G0.below).mono ?_
  rintro e w1 ⟨rfl, l1⟩
  have F0 := Lib.hid (b0.later l1)
  have F1 := Lib.hid (b1.later l1)
  have F2 := Lib.hid (b2.later l1)
  have L1 := Lib.hid (below_later G0.below l1)
  obtain ⟨c1, c2, l0⟩ := F0.out.two
  clear b0 b1 b2 G0 l1 HMB
  go_wp2_with fail
  refine (top_any ob m cb ol q cl bs w1 (HB.out.later L1.out) HM.out (by omega)).mono ?_
  rintro e w2 ⟨o2, cr2, rfl, hO2, l2⟩
  have hsz : w.heap.size + 2 < w2.heap.size := Nat.lt_of_lt_of_le F2.out.lt l2.size
  have D0 : DH 25 92 124 FB FL w w2.heap.size ob m cb ol q cl o2 m cr2 (keysB bs) (w2.alloc (.cells #[.slice ob m cb, .slice ol q cl, .slice o2 m cr2] 92)) :=
    ⟨(F1.out.later l2).alloc _, (F2.out.later l2).alloc _, Blk.new _ _ _, hO2.seg.alloc _, (fun e => by have h1 := (hO2.lt _ e).1; have h2 := F2.out.lt; omega), hsz, (below_later L1.out l2).alloc (below_later L1.out l2).size _⟩
  have HD0 := Lib.hid D0
  clear D0 hO2 l2 c1 c2 l0 F0 F1 F2 L1
  go_wp2
  obtain ⟨W1, hW1⟩ : ∃ W1, W1 = w2.alloc (.cells #[.slice ob m cb, .slice ol q cl, .slice o2 m cr2] 92) := ⟨_, rfl⟩
  rw [← hW1] at HD0 ⊢
  clear hW1
  go_loopw [26] (fun i wr => ∃ k : Nat, k ≤ np ∧ i = .int .i64 (k : Int) ∧ Hid (∃ o n c r, pathRow bs lv (P.take k) = some r ∧ r.length = n ∧ DH 25 92 124 FB FL w w2.heap.size ob m cb ol q cl o n c r wr)) (fun i _ => np - (intOf i).toNat)
  case atStart => exact ⟨0, Nat.zero_le _, rfl, Lib.hid ⟨o2, m, cr2, keysB bs, rfl, by rw [← HM.out]; simp [keysB], HD0.out⟩⟩
  case round =>
    obtain ⟨k, hk, rfl, HI⟩ := hrel
    obtain ⟨o, n, c, r, hr, hrn, hd⟩ := HI.out
    by_cases hlt : k < np
    · have hkP : k < P.length := by have := HNP.out; omega
      obtain ⟨a, rfl, da⟩ := (HP.out.later hd.low) k hkP
      have hn1 : n ≤ 100000 := by have h1 := pathRow_len HOK.out hr; have := HQ.out; omega
      by_cases hk0 : k = 0
      · have hP1 : P.take (k + 1) = [P[k]] := by subst hk0; rw [List.take_succ_eq_append_getElem hkP]; rfl
        have hr0 : pathRow bs lv [] = some r := by subst hk0; exact hr
        have ST := Lib.hid (fun (W : World) (h : Below wr.heap.size wr W) => step0 ob m cb ol q cl o n c bs lv P[k] w W HOK.out (HB.out.later (below_later hd.low h)) HL.out HM.out HQ.out (by omega) r hr0 hrn (hd.seg.later h))
        rw [← hP1] at ST
        obtain ⟨x, hx⟩ : ∃ x, x = P[k] := ⟨_, rfl⟩
        rw [← hx] at ST da
        clear hx hr0 hP1
        have hk : ∀ W', Below wr.heap.size wr W' → (W'.cell? ⟨w.heap.size + 2, k, none⟩ = some FB ∧ W'.cell? ⟨w2.heap.size, 0, none⟩ = some (.slice ob m cb) ∧ W'.cell? ⟨w2.heap.size, 1, none⟩ = some (.slice ol q cl) ∧ W'.cell? ⟨w2.heap.size, 2, none⟩ = some (.slice o n c)) ∧ Below wr.heap.size wr W' := fun W' h =>
          ⟨⟨by subst hk0; exact (hd.k2.later h).cell 0, (hd.kA.later h).cell 0, (hd.kA.later h).cell 1, (hd.kA.later h).cell 2⟩, h⟩
        have HK := Lib.hid hk
        have hws : Below wr.heap.size wr wr := Below.refl _ _
        obtain ⟨⟨e0, e1, e2, e3⟩, _⟩ := hk wr hws
        have lL := hd.k2.lt
        have lA := hd.kA.lt
        have i1 : (k : Int) < 2 := by omega
        have i3 : (k : Int) < (np : Int) := by omega
        have HD := Lib.hid hd
        clear hk hd hr hk0
        go_wp2_with fail
        go_region_held3 (fun w' => (w'.cell? ⟨w.heap.size + 2, k, none⟩ = some FB ∧ w'.cell? ⟨w2.heap.size, 0, none⟩ = some (.slice ob m cb) ∧ w'.cell? ⟨w2.heap.size, 1, none⟩ = some (.slice ol q cl) ∧ w'.cell? ⟨w2.heap.size, 2, none⟩ = some (.slice o n c)) ∧ Below wr.heap.size wr w')
          (first | exact HK.out _ hws | exact HK.out _ hws.drew | exact HK.out _ (hws.alloc hws.size _) | exact HK.out _ (hws.drew.alloc hws.size _) | exact HK.out _ (hws.alloc hws.size _).drew | exact HK.out _ (((hws.setCell (by first | (simp; done) | (have := hws.size; simp; omega)) _).setCell (by first | (simp; done) | (have := hws.size; simp; omega)) _).setCell (by first | (simp; done) | (have := hws.size; simp; omega)) _))
          ((go_at_call 83; (with_reducible refine (ST.out _ (by first | exact hws.drew | exact (hws.alloc hws.size _).drew)).mono ?_); rintro e w3 ⟨ob', m', cb', ol', q', cl', o', n', c', good, rfl, hst, hlow⟩; (first | (have kz : Blk w3 wr.heap.size #[.slice none 0 0, .slice none 0 0, .slice none 0 0] 92 := (Blk.new wr _ _).drew.later hlow; obtain ⟨z0, z1, z2⟩ := kz.z3; obtain ⟨y0, y1, y2, yl⟩ := kz.c3) | skip); have hws := (by first | exact hws.drew.trans (hlow.mono hws.size) | exact (hws.alloc hws.size _).drew.trans (hlow.mono (hws.alloc hws.size _).size) : Below wr.heap.size wr w3); have HST := Lib.hid hst; clear hst hlow))
        all_goals
          refine then_at ?_
          intro W4 hW4
          (first
            | (have hn : Blk W4 w3.heap.size #[.slice ob' m' cb', .slice ol' q' cl', .slice o' n' c'] 92 := by rw [hW4]; exact Blk.new _ _ _)
            | (have hn : Blk W4 wr.heap.size #[.slice ob' m' cb', .slice ol' q' cl', .slice o' n' c'] 92 := by rw [hW4]; exact kz.set3 _ _ _))
          have hw4 : Below wr.heap.size wr W4 := by
            rw [hW4]
            first
              | exact hws.alloc hws.size _
              | exact ((hws.setCell (Nat.le_refl _) _).setCell (Nat.le_refl _) _).setCell (Nat.le_refl _) _
          obtain ⟨n0, n1, n2, ln⟩ := hn.c3
          have D4 := HD.out.later hw4
          have HD4 := Lib.hid D4
          have lo4 := D4.low
          clear hW4 hws hw4 hn e0 e1 e2 e3 HK
          cases good
          · have HNO := Lib.hid (show pathRow bs lv P = none from pathRow_none (by have := HNP.out; omega) hkP (show pathRow bs lv (P.take (k + 1)) = none from HST.out))
            have b1 := D4.k1
            obtain ⟨d0, d1, d2, dl⟩ := b1.c3
            obtain ⟨v0, v1, v2⟩ := b1.z3
            obtain ⟨r0, r1, r2, _⟩ := (b1.set3 (.slice none 0 0) (.slice none 0 0) (.slice none 0 0)).c3
            have HR := Lib.hid (And.intro r0 (And.intro r1 r2))
            clear b1 r0 r1 r2 D4 HST n0 n1 n2 ln lA lL da
            go_wp2
            obtain ⟨r0, r1, r2⟩ := HR.out
            refine bodyPost_ret (v := .tuple #[LV none 0 0 none 0 0 none 0 0, .bool false]) (by simp [results, Try.results55, go_sem, r0, r1, r2]) rfl ?_
            exact ⟨_, _, _, _, _, _, _, _, _, false, rfl, HNO.out, ((lo4.setCell (by simp) _).setCell (by simp) _).setCell (by simp) _⟩
          · have hst := HST.out
            rw [StepR, if_pos rfl] at hst
            obtain ⟨⟨rfl, rfl, rfl, rfl, rfl, rfl⟩, r', hr', hn', hs'⟩ := hst
            obtain ⟨d0, d1, d2, dl⟩ := D4.kA.c3
            obtain ⟨v0, v1, v2⟩ := D4.kA.z3
            have HRW := Lib.hid (And.intro hr' (And.intro hn' hs'))
            clear D4 HST hr' hn' hs' lA lL da
            go_wp2
            go_roundw
            case rel =>
              obtain ⟨hr', hn', hs'⟩ := HRW.out
              have hA := HD4.out.hA
              refine ⟨k + 1, by omega, by go_num, Lib.hid ⟨o', n', c', r', hr', hn', ?_⟩⟩
              have hlo := ((HD4.out.low.setCell (p := ⟨w2.heap.size, 0, none⟩) (by simp; omega) (.slice ob' m' cb')).setCell (p := ⟨w2.heap.size, 1, none⟩) (by simp; omega) (.slice ol' q' cl')).setCell (p := ⟨w2.heap.size, 2, none⟩) (by simp; omega) (.slice o' n' c')
              exact ⟨((HD4.out.k1.other (by simp; omega) _).other (by simp; omega) _).other (by simp; omega) _, ((HD4.out.k2.other (by simp; omega) _).other (by simp; omega) _).other (by simp; omega) _, HD4.out.kA.set3 _ _ _, hs'.later hlo, hs'.ne (Nat.le_succ _), hA, hlo⟩
            case measure => simp [intOf]; omega
      · have hk0 : k = 1 := by omega
        have hP1 : P.take (k + 1) = [P[0]'(by omega), P[k]] := by subst hk0; rw [List.take_succ_eq_append_getElem hkP, List.take_succ_eq_append_getElem (show 0 < P.length by omega)]; rfl
        have hr0 : pathRow bs lv [P[0]'(by omega)] = some r := by subst hk0; rw [List.take_succ_eq_append_getElem (show 0 < P.length by omega)] at hr; exact hr
        have ST := Lib.hid (fun (W : World) (h : Below wr.heap.size wr W) => step1 ob m cb ol q cl o n c bs lv (P[0]'(by omega)) P[k] w W HOK.out r hr0 hrn (hd.seg.later h) (by omega))
        rw [← hP1] at ST
        obtain ⟨x, hx⟩ : ∃ x, x = P[k] := ⟨_, rfl⟩
        rw [← hx] at ST da
        clear hx hr0 hP1
        have hk : ∀ W', Below wr.heap.size wr W' → (W'.cell? ⟨w.heap.size + 2, k, none⟩ = some FL ∧ W'.cell? ⟨w2.heap.size, 0, none⟩ = some (.slice ob m cb) ∧ W'.cell? ⟨w2.heap.size, 1, none⟩ = some (.slice ol q cl) ∧ W'.cell? ⟨w2.heap.size, 2, none⟩ = some (.slice o n c)) ∧ Below wr.heap.size wr W' := fun W' h =>
          ⟨⟨by subst hk0; exact (hd.k2.later h).cell 1, (hd.kA.later h).cell 0, (hd.kA.later h).cell 1, (hd.kA.later h).cell 2⟩, h⟩
        have HK := Lib.hid hk
        have hws : Below wr.heap.size wr wr := Below.refl _ _
        obtain ⟨⟨e0, e1, e2, e3⟩, _⟩ := hk wr hws
        have lL := hd.k2.lt
        have lA := hd.kA.lt
        have i1 : (k : Int) < 2 := by omega
        have i3 : (k : Int) < (np : Int) := by omega
        have HD := Lib.hid hd
        clear hk hd hr hk0
        go_wp2_with fail
        go_region_held3 (fun w' => (w'.cell? ⟨w.heap.size + 2, k, none⟩ = some FL ∧ w'.cell? ⟨w2.heap.size, 0, none⟩ = some (.slice ob m cb) ∧ w'.cell? ⟨w2.heap.size, 1, none⟩ = some (.slice ol q cl) ∧ w'.cell? ⟨w2.heap.size, 2, none⟩ = some (.slice o n c)) ∧ Below wr.heap.size wr w')
          (first | exact HK.out _ hws | exact HK.out _ hws.drew | exact HK.out _ (hws.alloc hws.size _) | exact HK.out _ (hws.drew.alloc hws.size _) | exact HK.out _ (hws.alloc hws.size _).drew | exact HK.out _ (((hws.setCell (by first | (simp; done) | (have := hws.size; simp; omega)) _).setCell (by first | (simp; done) | (have := hws.size; simp; omega)) _).setCell (by first | (simp; done) | (have := hws.size; simp; omega)) _))
          ((go_at_call 84; (with_reducible refine (ST.out _ (by first | exact hws.drew | exact (hws.alloc hws.size _).drew)).mono ?_); rintro e w3 ⟨ob', m', cb', ol', q', cl', o', n', c', good, rfl, hst, hlow⟩; (first | (have kz : Blk w3 wr.heap.size #[.slice none 0 0, .slice none 0 0, .slice none 0 0] 92 := (Blk.new wr _ _).drew.later hlow; obtain ⟨z0, z1, z2⟩ := kz.z3; obtain ⟨y0, y1, y2, yl⟩ := kz.c3) | skip); have hws := (by first | exact hws.drew.trans (hlow.mono hws.size) | exact (hws.alloc hws.size _).drew.trans (hlow.mono (hws.alloc hws.size _).size) : Below wr.heap.size wr w3); have HST := Lib.hid hst; clear hst hlow))
        all_goals
          refine then_at ?_
          intro W4 hW4
          (first
            | (have hn : Blk W4 w3.heap.size #[.slice ob' m' cb', .slice ol' q' cl', .slice o' n' c'] 92 := by rw [hW4]; exact Blk.new _ _ _)
            | (have hn : Blk W4 wr.heap.size #[.slice ob' m' cb', .slice ol' q' cl', .slice o' n' c'] 92 := by rw [hW4]; exact kz.set3 _ _ _))
          have hw4 : Below wr.heap.size wr W4 := by
            rw [hW4]
            first
              | exact hws.alloc hws.size _
              | exact ((hws.setCell (Nat.le_refl _) _).setCell (Nat.le_refl _) _).setCell (Nat.le_refl _) _
          obtain ⟨n0, n1, n2, ln⟩ := hn.c3
          have D4 := HD.out.later hw4
          have HD4 := Lib.hid D4
          have lo4 := D4.low
          clear hW4 hws hw4 hn e0 e1 e2 e3 HK
          cases good
          · have HNO := Lib.hid (show pathRow bs lv P = none from pathRow_none (by have := HNP.out; omega) hkP (show pathRow bs lv (P.take (k + 1)) = none from HST.out))
            have b1 := D4.k1
            obtain ⟨d0, d1, d2, dl⟩ := b1.c3
            obtain ⟨v0, v1, v2⟩ := b1.z3
            obtain ⟨r0, r1, r2, _⟩ := (b1.set3 (.slice none 0 0) (.slice none 0 0) (.slice none 0 0)).c3
            have HR := Lib.hid (And.intro r0 (And.intro r1 r2))
            clear b1 r0 r1 r2 D4 HST n0 n1 n2 ln lA lL da
            go_wp2
            obtain ⟨r0, r1, r2⟩ := HR.out
            refine bodyPost_ret (v := .tuple #[LV none 0 0 none 0 0 none 0 0, .bool false]) (by simp [results, Try.results55, go_sem, r0, r1, r2]) rfl ?_
            exact ⟨_, _, _, _, _, _, _, _, _, false, rfl, HNO.out, ((lo4.setCell (by simp) _).setCell (by simp) _).setCell (by simp) _⟩
          · have hst := HST.out
            rw [StepR, if_pos rfl] at hst
            obtain ⟨⟨rfl, rfl, rfl, rfl, rfl, rfl⟩, r', hr', hn', hs'⟩ := hst
            obtain ⟨d0, d1, d2, dl⟩ := D4.kA.c3
            obtain ⟨v0, v1, v2⟩ := D4.kA.z3
            have HRW := Lib.hid (And.intro hr' (And.intro hn' hs'))
            clear D4 HST hr' hn' hs' lA lL da
            go_wp2
            go_roundw
            case rel =>
              obtain ⟨hr', hn', hs'⟩ := HRW.out
              have hA := HD4.out.hA
              refine ⟨k + 1, by omega, by go_num, Lib.hid ⟨o', n', c', r', hr', hn', ?_⟩⟩
              have hlo := ((HD4.out.low.setCell (p := ⟨w2.heap.size, 0, none⟩) (by simp; omega) (.slice ob' m' cb')).setCell (p := ⟨w2.heap.size, 1, none⟩) (by simp; omega) (.slice ol' q' cl')).setCell (p := ⟨w2.heap.size, 2, none⟩) (by simp; omega) (.slice o' n' c')
              exact ⟨((HD4.out.k1.other (by simp; omega) _).other (by simp; omega) _).other (by simp; omega) _, ((HD4.out.k2.other (by simp; omega) _).other (by simp; omega) _).other (by simp; omega) _, HD4.out.kA.set3 _ _ _, hs'.later hlo, hs'.ne (Nat.le_succ _), hA, hlo⟩
            case measure => simp [intOf]; omega
    · obtain rfl : k = np := by omega
      have hfull : P.take k = P := List.take_of_length_le (by have := HNP.out; omega)
      rw [hfull] at hr
      obtain ⟨d0, d1, d2, dl⟩ := hd.k1.c3
      obtain ⟨v0, v1, v2⟩ := hd.k1.z3
      obtain ⟨k0, k1, k2, kl⟩ := hd.kA.c3
      obtain ⟨r0, r1, r2, _⟩ := (hd.k1.set3 (.slice ob m cb) (.slice ol q cl) (.slice o n c)).c3
      have HR := Lib.hid (And.intro r0 (And.intro r1 r2))
      have HD := Lib.hid hd
      have HRW := Lib.hid (And.intro hr hrn)
      clear r0 r1 r2 hd hr hrn hfull
      go_wp2
      obtain ⟨r0, r1, r2⟩ := HR.out
      refine bodyPost_ret (v := .tuple #[LV ob m cb ol q cl o n c, .bool true]) (by simp [results, Try.results55, go_sem, r0, r1, r2]) rfl ?_
      refine ⟨_, _, _, _, _, _, _, _, _, true, rfl, ⟨⟨rfl, rfl, rfl, rfl, rfl, rfl⟩, r, HRW.out.1, HRW.out.2, ?_⟩, ((HD.out.low.setCell (by simp) _).setCell (by simp) _).setCell (by simp) _⟩
      exact ((HD.out.seg.oth HD.out.ne 0 _).oth HD.out.ne 1 _).oth HD.out.ne 2 _
end Go.Proofs.Ytjfnhjmdgfkgnaa

