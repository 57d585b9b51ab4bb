import Derived.Test.YtjfnhjmdgfkgnaaV16
import Derived.Test.YtjfnhjmdgfkgnaaH5
import Derived.Test.YtjfnhjmdgfkgnaaVD
/- CursorSeeks: to seek comes to where next comes, as often as needed, by few looks. -/
namespace Go.Proofs.Kit
open Go.RowKit
theorem But.segR {r : Nat} {w w' : World} {o : Option Addr} {n c : Nat} {l : List Br} (h : But r w w') (hs : SegR w (.slice o n c) l) (hr : ∀ a, o = some a → a.block ≠ r) : SegR w' (.slice o n c) l := by
  refine ⟨hs.1, hs.2.imp id ?_⟩
  rintro ⟨b, f, cap, e, h1, h2, h3, h4⟩
  have hB : b ≠ r := by injection e with e _ _; exact hr _ e
  have hc : ∀ i, w'.cell? ⟨b, i, none⟩ = w.cell? ⟨b, i, none⟩ := fun i => World.cell?_of_block (w := w) (h.same b hB h3)
  exact ⟨b, f, cap, e, h1, h2, Nat.lt_of_lt_of_le h3 h.size, fun i hi => ⟨(hc _).trans (h4 i hi).1, (hc _).trans (h4 i hi).2.1, (hc _).trans (h4 i hi).2.2⟩⟩
theorem own_of {o : Option Addr} {n c b : Nat} (h : (Value.slice o n c).ownBlock = some b) : ∃ a, o = some a ∧ a.block = b := by
  cases o with
  | none => simp [Value.ownBlock] at h
  | some a => exact ⟨a, rfl, by simpa [Value.ownBlock] using h⟩
/-- The same place, whatever the steps. -/
def eqx (X Y : Cs) : Prop := X.d = Y.d ∧ X.r0 = Y.r0 ∧ X.r1 = Y.r1
theorem eqx.row {X Y : Cs} (h : eqx X Y) : X.row = Y.row := by obtain ⟨a, b, c⟩ := h; unfold Cs.row; rw [a, b, c]
theorem eqx.err {X Y : Cs} (h : eqx X Y) (k : Int) : cerr k X = cerr k Y := by unfold cerr; rw [h.row, h.1]
theorem eqx.on {X Y : Cs} (h : eqx X Y) (p q q' : Nat) : eqx (X.on p q) (Y.on p q') := by
  obtain ⟨a, b, c⟩ := h
  unfold Cs.on eqx
  rw [a, b, c]
  split <;> simp
theorem eqx.go {X Y : Cs} (h : eqx X Y) (bs : List Br) (lv : List Int) (k key : Int) (q q' : Nat) : eqx (cgo bs lv k key q X) (cgo bs lv k key q' Y) := by
  have h0 := h
  obtain ⟨a, b, c⟩ := h
  unfold cgo
  split
  · unfold copen brAt
    rw [a, b]
    split <;> exact ⟨rfl, rfl, rfl⟩
  · split
    · unfold cup
      rw [a, b]
      split <;> exact ⟨rfl, rfl, rfl⟩
    · split
      · exact h0.on 1 1 1
      · have e : cfar key X = cfar key Y := by unfold cfar; rw [h0.row]
        rw [e]
        exact h0.on _ _ _
end Go.Proofs.Kit
namespace Go.Proofs.Ytjfnhjmdgfkgnaa
open Go.RowKit Go.Proofs.Kit Go.Shelf
theorem eqx.path {X Y : Cs} (h : eqx X Y) : cpath X = cpath Y := by obtain ⟨_, b, c⟩ := h; unfold cpath; rw [b, c]
theorem Cur.but {lo r r' : Nat} {w w' : World} {bs : List Br} {lv : List Int} {X : Cs} (h : Cur lo r w bs lv X) (hb : But r' w w') (hne : r ≠ r') (hn : r' < lo ∨ r ≤ r') : Cur lo r w' bs lv X := by
  obtain ⟨ob, m, cb, ol, q, cl, ok, nk, ck, o0, n0, c0, o1, n1, c1, hk, h⟩ := h
  have hi : ∀ {o : Option Addr}, In8 lo r o → ∀ a, o = some a → a.block ≠ r' := fun hI a ha => by
    have := hI a ha
    omega
  have hv : ∀ {o : Option Addr} {n c : Nat}, In8 lo r o → ∀ b, (Value.slice o n c).ownBlock = some b → b ≠ r' := fun hI b hb => by
    obtain ⟨a, ha, rfl⟩ := own_of hb
    exact hi hI a ha
  exact ⟨ob, m, cb, ol, q, cl, ok, nk, ck, o0, n0, c0, o1, n1, c1, hb.blk hk hne,
    { h with sB := hb.segR h.sB (hi h.iB), sL := hb.seg h.sL (hv h.iL), sK := hb.seg h.sK (hv h.iK), s0 := hb.seg h.s0 (hv h.i0), s1 := hb.seg h.s1 (hv h.i1) }⟩
/-- Two cursors at one place. -/
structure SkI (lo lo2 ra rb : Nat) (w2 w : World) (bs : List Br) (lv : List Int) (X Y : Cs) (k : Nat) : Prop where
  low : Below lo w2 w
  ca : Cur lo ra w bs lv X
  cb : Cur lo2 rb w bs lv Y
  h1 : lo ≤ ra
  h2 : ra < lo2
  h3 : lo2 ≤ rb
  eq : eqx X Y
  sa : X.s ≤ 400 * k
  sb : Y.s ≤ 400 * k
theorem SkI.later {lo lo2 ra rb k : Nat} {w2 w w' : World} {bs : List Br} {lv : List Int} {X Y : Cs} (h : SkI lo lo2 ra rb w2 w bs lv X Y k) (hb : Below w.heap.size w w') : SkI lo lo2 ra rb w2 w' bs lv X Y k :=
  { h with low := h.low.trans (hb.mono (by have := h.h1; have := h.ca.lt; omega)), ca := h.ca.later hb, cb := h.cb.later hb }
theorem Cur.drew {lo r : Nat} {w : World} {bs : List Br} {lv : List Int} {X : Cs} (h : Cur lo r w bs lv X) : Cur lo r w.drew bs lv X := h.later (Below.refl _ _).drew
theorem low_but {r : Nat} {w2 W W' : World} (h : Below w2.heap.size w2 W) (hb : But r W W') (hr : w2.heap.size ≤ r) : Below w2.heap.size w2 W' := h.trans (hb.below hr h.size)
/-- One cursor has sought, the other one goes next. -/
structure SkJ (lo lo2 ra rb : Nat) (w2 w : World) (bs : List Br) (lv : List Int) (X X4 Y : Cs) (j : Nat) : Prop where
  low : Below lo w2 w
  ca : Cur lo ra w bs lv X4
  cb : Cur lo2 rb w bs lv Y
  h1 : lo ≤ ra
  h2 : ra < lo2
  h3 : lo2 ≤ rb
  eq : eqx (X.on j 0) Y
  sb : Y.s ≤ 3200 + j
theorem SkJ.later {lo lo2 ra rb j : Nat} {w2 w w' : World} {bs : List Br} {lv : List Int} {X X4 Y : Cs} (h : SkJ lo lo2 ra rb w2 w bs lv X X4 Y j) (hb : Below w.heap.size w w') : SkJ lo lo2 ra rb w2 w' bs lv X X4 Y j :=
  { h with low := h.low.trans (hb.mono (by have := h.h1; have := h.ca.lt; omega)), ca := h.ca.later hb, cb := h.cb.later hb }
theorem on_zero (X : Cs) : eqx (X.on 0 0) X := by
  unfold Cs.on eqx
  split <;> simp_all
theorem on_more (X : Cs) (j : Nat) : eqx ((X.on j 0).on 1 1) (X.on (j + 1) 0) := by
  unfold Cs.on eqx
  split
  · simp
  · simp_all
theorem on_row {X : Cs} (j q : Nat) : (X.on j q).row = X.row.drop j := by
  unfold Cs.on Cs.row
  split
  · simp_all
  · split
    · simp_all
    · simp_all
theorem on_d {X : Cs} (j q : Nat) : (X.on j q).d = X.d := by
  unfold Cs.on
  split <;> simp_all
theorem on_s {X : Cs} (j q : Nat) : (X.on j q).s = X.s + q := by
  unfold Cs.on
  split <;> rfl
theorem drop_cons8 {l : List Int} {i : Nat} (hi : i < l.length) : l.drop i = l[i] :: l.drop (i + 1) := List.drop_eq_getElem_cons hi
theorem eqx_symm {X Y : Cs} (h : eqx X Y) : eqx Y X := ⟨h.1.symm, h.2.1.symm, h.2.2.symm⟩
theorem eqx_trans {X Y Z : Cs} (h : eqx X Y) (k : eqx Y Z) : eqx X Z := ⟨h.1.trans k.1, h.2.1.trans k.2.1, h.2.2.trans k.2.2⟩
theorem on_any (X : Cs) (j q q' : Nat) : eqx (X.on j q) (X.on j q') := by
  unfold Cs.on eqx
  split <;> simp
/-- What a move makes of a place. -/
def MvR (bs : List Br) (lv : List Int) (k key : Int) (X X' : Cs) : Prop := (cerr k X = 0 ∧ ∃ q, Lk8 k key X q ∧ X' = cgo bs lv k key q X) ∨ (cerr k X ≠ 0 ∧ X' = X)
theorem mvd_uni {lo r : Nat} {bs : List Br} {lv : List Int} {k key E : Int} {X : Cs} {w : World} {e : Ending} {w' : World} (h : Mvd lo r bs lv k key X w e w') (hE : cerr k X = E) : e = .returned (.int .i64 E) ∧ ∃ X', Hid (But r w w' ∧ Cur lo r w' bs lv X' ∧ MvR bs lv k key X X') := by
  obtain ⟨hb, rfl, ⟨h1, q, hq, hC⟩ | ⟨h1, hC⟩⟩ := h
  · exact ⟨by rw [hE], _, Lib.hid ⟨hb, hC, .inl ⟨h1, q, hq, rfl⟩⟩⟩
  · exact ⟨by rw [hE], _, Lib.hid ⟨hb, hC, .inr ⟨h1, rfl⟩⟩⟩
theorem MvR.eqx {bs : List Br} {lv : List Int} {k key : Int} {X X' Y Y' : Cs} (hx : MvR bs lv k key X X') (hy : MvR bs lv k key Y Y') (h : eqx X Y) : Kit.eqx X' Y' := by
  rcases hx with ⟨a, q, _, rfl⟩ | ⟨a, rfl⟩
  · rcases hy with ⟨b, q', _, rfl⟩ | ⟨b, rfl⟩
    · exact h.go _ _ _ _ _ _
    · exact absurd (by rw [← h.err]; exact a) b
  · rcases hy with ⟨b, q', _, rfl⟩ | ⟨b, rfl⟩
    · exact absurd (by rw [h.err]; exact b) a
    · exact h
theorem MvR.steps {bs : List Br} {lv : List Int} {k key : Int} {X X' : Cs} (hx : MvR bs lv k key X X') (hl : X.row.length ≤ 100000) : X'.s ≤ X.s + 200 := by
  rcases hx with ⟨a, q, hq, rfl⟩ | ⟨a, rfl⟩
  · exact (steps_go a hl hq).2
  · omega
set_option maxRecDepth 100000 in
set_option maxHeartbeats 16000000 in
theorem seeks_true (ob : Option Addr) (m cb : Nat) (ol : Option Addr) (q cl : Nat) (bs : List Br) (lv : List Int) (om : Option Addr) (n cm : Nat) (ms : List Mv) (w : World) (hm : bs.length = m) (hmc : m ≤ cb) (hcb : cb ≤ 9223372036854775807) (ab : ArgR w ob cb bs) (hq : lv.length = q) (hqc : q ≤ cl) (hcl : cl ≤ 9223372036854775807) (al : ArgI .u64 w ol cl lv) (hu : U64s (keysB bs)) (hl : U64s lv)
    (hn : ms.length = n) (hnc : n ≤ cm) (hcm : cm ≤ 9223372036854775807) (am : ArgM w om cm ms) (hk : ∀ x ∈ ms, 0 ≤ x.2 ∧ x.2 < 18446744073709551616) (key : Int) (k0 : 0 ≤ key) (k1 : key < 18446744073709551616) :
    Calls Try.prog 9 #[.agg #[.slice ob m cb, .slice ol q cl], .slice om n cm, .int .u64 key] w fun e w' => e = .returned (.bool true) ∧ Below w.heap.size w w' := by
  have HOWN := Lib.hid (fun W (g : Below w.heap.size w W) => own8_any ob m cb ol q cl bs lv W hm hmc hcb (ab.later g) hq hqc hcl (al.later g))
  have hub : U64s (keysB (bs.take 40)) := fun x hx => hu x (by unfold keysB at hx ⊢; rw [List.map_take] at hx; exact List.mem_of_mem_take hx)
  have hul : U64s (lv.take 80) := fun x hx => hl x (List.mem_of_mem_take hx)
  have hb40 : (bs.take 40).length ≤ 40 := by simp; omega
  have hl80 : (lv.take 80).length ≤ 80 := by simp; omega
  obtain ⟨BS, hBS⟩ : ∃ BS, BS = bs.take 40 := ⟨_, rfl⟩
  obtain ⟨LS, hLS⟩ : ∃ LS, LS = lv.take 80 := ⟨_, rfl⟩
  rw [← hBS] at hub hb40 HOWN
  rw [← hLS] at hul hl80 HOWN
  have HUB := Lib.hid hub
  have HUL := Lib.hid hul
  have HB40 := Lib.hid hb40
  have HL80 := Lib.hid hl80
  have HN := Lib.hid hn
  have HAM := Lib.hid am
  have HKM := Lib.hid hk
  clear hm hmc hcb ab hq hqc hcl al hu hl hub hul hb40 hl80 hBS hLS hn am hk
  go_enter Try.func9, Try.ntmps9
  go_wp2_with fail
  refine (wakes8_true _).mono ?_
  rintro e w1 ⟨rfl, l1⟩
  have k1 := (Blk.new w #[.slice ob m cb, .slice ol q cl] 25).later l1
  have g1 : Below w.heap.size w w1 := ((Below.refl _ _).alloc (Nat.le_refl _) _).trans (l1.mono (by simp))
  obtain ⟨c0, c1, lc⟩ := k1.two
  clear k1 l1
  go_wp2_with fail
  refine (HOWN.out _ g1).mono ?_
  rintro e wo ⟨o1, m1, y1, o2, q2, y2, rfl, hOB, hOL, lo1⟩
  have go := g1.trans (lo1.mono g1.size)
  have hm1 := segR_lenV hOB.seg
  have hq1 := segU_len hOL.seg
  clear lo1 g1 c0 c1 lc HOWN
  have HK01 := Lib.hid (And.intro k0 k1)
  go_wp2_with fail
  obtain ⟨w2, hw2⟩ : ∃ w2, w2 = wo.alloc (.cells #[.slice o1 m1 y1, .slice o2 q2 y2] 25) := ⟨_, rfl⟩
  have kT : Blk w2 wo.heap.size #[.slice o1 m1 y1, .slice o2 q2 y2] 25 := by rw [hw2]; exact Blk.new _ _ _
  have sB : SegR w2 (.slice o1 m1 y1) BS := by rw [hw2]; exact hOB.seg.alloc _
  have sL : Seg .u64 w2 (.slice o2 q2 y2) LS := by rw [hw2]; exact hOL.seg.alloc _
  have g2 : Below w.heap.size w w2 := by rw [hw2]; exact go.alloc go.size _
  obtain ⟨T, hT⟩ : ∃ T, T = wo.heap.size := ⟨_, rfl⟩
  rw [← hw2]
  rw [← hT] at kT ⊢
  have KT := Lib.hid kT
  have SB := Lib.hid sB
  have SL := Lib.hid sL
  have HM1 := Lib.hid hm1
  have HQ1 := Lib.hid hq1
  clear hw2 hT kT sB sL hOB hOL go hm1 hq1 k0 k1
  refine (cnew_any o1 m1 y1 o2 q2 y2 BS LS w2 SB.out SL.out HM1.out HQ1.out (by have := HM1.out; have := HB40.out; omega) (by have := HQ1.out; have := HL80.out; omega)).mono ?_
  by_cases hok : ok7 BS LS
  · rintro e w3 ⟨b3, hN⟩
    rw [if_pos hok] at hN
    obtain ⟨ra, rfl, hr, hC⟩ := hN
    have HCA := Lib.hid hC
    have HB3 := Lib.hid b3
    have HOK := Lib.hid hok
    have kt3 := KT.out.later b3
    obtain ⟨t0, t1, tl⟩ := kt3.two
    have G2 := Lib.hid g2
    clear hC b3 hok kt3 g2
    go_wp2_with fail
    refine (cnew_any o1 m1 y1 o2 q2 y2 BS LS w3 (SB.out.later HB3.out) (SL.out.later HB3.out) HM1.out HQ1.out (by have := HM1.out; have := HB40.out; omega) (by have := HQ1.out; have := HL80.out; omega)).mono ?_
    rintro e w4 ⟨b4, hN⟩
    rw [if_pos HOK.out] at hN
    obtain ⟨rb, rfl, hrb, hCb⟩ := hN
    have HS4 : Hid (SkI w2.heap.size w3.heap.size ra rb w2 w4 BS LS ⟨0, [], [], 0⟩ ⟨0, [], [], 0⟩ 0) := Lib.hid ⟨HB3.out.trans (b4.mono HB3.out.size), HCA.out.later b4, hCb, hr, HCA.out.lt, hrb, ⟨rfl, rfl, rfl⟩, by simp, by simp⟩
    clear hCb b4 HCA t0 t1 tl
    go_wp2_with fail
    go_loopw [12, 13, 46, 47, 48, 49, 50, 51, 52, 53, 54, 55, 56, 57, 58, 59, 60, 61, 62] (fun _ _ s46 _ _ _ _ _ _ _ _ _ _ _ _ _ _ _ _ wr => ∃ (k : Nat) (X Y : Cs), k ≤ n ∧ s46 = .int .i64 (k : Int) ∧ Hid (SkI w2.heap.size w3.heap.size ra rb w2 wr BS LS X Y (min k 8))) (fun _ _ s46 _ _ _ _ _ _ _ _ _ _ _ _ _ _ _ _ _ => n - (intOf s46).toNat)
    case atStart => exact ⟨0, ⟨0, [], [], 0⟩, ⟨0, [], [], 0⟩, Nat.zero_le _, rfl, HS4⟩
    case round =>
      obtain ⟨k, X, Y, hkn, rfl, HU⟩ := hrel
      clear HS4
      by_cases hlt : k < n
      · have hlow := below_later G2.out HU.out.low
        have hki : k < ms.length := by have := HN.out; omega
        obtain ⟨a, rfl, ha⟩ : ∃ a, om = some a ∧ ∀ i (h : i < ms.length), wr.cell? (a.add (i * 2)) = some (.int .i64 ms[i].1) ∧ wr.cell? (a.add (i * 2 + 1)) = some (.int .u64 ms[i].2) := by
          rcases HAM.out.later hlow with ⟨_, h0, _⟩ | h
          · rw [h0] at hki; simp at hki
          · exact h
        obtain ⟨e0, e1⟩ := ha k hki
        have hkey := HKM.out ms[k] (List.getElem_mem hki)
        obtain ⟨kd, hkd⟩ : ∃ kd, kd = ms[k].1 := ⟨_, rfl⟩
        obtain ⟨ky, hky⟩ : ∃ ky, ky = ms[k].2 := ⟨_, rfl⟩
        rw [← hkd] at e0
        rw [← hky] at e1 hkey
        rw [← Addr.add_add a (k * 2) 1] at e1
        have e2 : wr.cell? ⟨(a.add (k * 2)).block, (a.add (k * 2)).off + 1, none⟩ = some (.int .u64 ky) := e1
        have HKY := Lib.hid hkey
        have hc1 : (k : Int) < (n : Int) := by omega
        have hk0 : (0 : Int) ≤ (k : Int) := by omega
        have HLT := Lib.hid hlt
        clear hlow ha hkey hkd hky hki hkn e1 hlt
        by_cases h8 : k < 8
        · have hc2 : (k : Int) < 8 := by omega
          have HK8 := Lib.hid h8
          clear h8
          go_wp2_with fail
          obtain ⟨W1, hW1⟩ : ∃ W1, W1 = wr.alloc (.cells #[.int .i64 kd, .int .u64 ky] 70) := ⟨_, rfl⟩
          have hal : Below wr.heap.size wr W1 := by rw [hW1]; exact (Below.refl _ _).alloc (Nat.le_refl _) _
          have h9 : Blk W1 wr.heap.size #[.int .i64 kd, .int .u64 ky] 70 := by rw [hW1]; exact Blk.new _ _ _
          rw [← hW1]
          have hTa : wr.heap.size ≠ ra := by have := HU.out.ca.lt; omega
          have hTb : wr.heap.size ≠ rb := by have := HU.out.cb.lt; omega
          obtain ⟨T9, hT⟩ : ∃ T9, T9 = wr.heap.size := ⟨_, rfl⟩
          rw [← hT] at h9 hTa hTb ⊢
          have HU1 := Lib.hid (HU.out.later hal)
          clear hW1 hal hT HU e0 e2
          have hst := HU1.out.sa
          have hst2 := HU1.out.sb
          rw [Nat.min_eq_left (by have := HK8.out; omega)] at hst hst2
          obtain ⟨E, hE⟩ : ∃ E, E = cerr kd X := ⟨_, rfl⟩
          have HMA := Lib.hid (fun W (g : Cur w2.heap.size ra W BS LS X) => (kmove_any g (by have := HK8.out; omega) HUB.out HUL.out kd ky HKY.out.1 HKY.out.2).mono fun e w' h => mvd_uni h hE.symm)
          have HMB := Lib.hid (fun W (g : Cur w3.heap.size rb W BS LS Y) => (kmove_any g (by have := HK8.out; omega) HUB.out HUL.out kd ky HKY.out.1 HKY.out.2).mono fun e w' h => mvd_uni (E := E) h (by rw [hE, HU1.out.eq.err]))
          have hk : ∀ W', Blk W' T9 #[.int .i64 kd, .int .u64 ky] 70 → (W'.cell? ⟨T9, 0, none⟩ = some (.int .i64 kd) ∧ W'.cell? ⟨T9, 1, none⟩ = some (.int .u64 ky) ∧ T9 < W'.heap.size) ∧ Blk W' T9 #[.int .i64 kd, .int .u64 ky] 70 := fun W' h => ⟨⟨h.cell 0, h.cell 1, h.lt⟩, h⟩
          have HK := Lib.hid hk
          have hca := HU1.out.ca
          have hcb := HU1.out.cb
          have hlw := HU1.out.low
          have hab : ra ≠ rb := by have := HU1.out.h2; have := HU1.out.h3; omega
          have hba : rb ≠ ra := hab.symm
          have ho1 : ra < w3.heap.size ∨ rb ≤ ra := .inl HU1.out.h2
          have ho2 : rb < w2.heap.size ∨ ra ≤ rb := .inr (by have := HU1.out.h2; have := HU1.out.h3; omega)
          have hr1 : w2.heap.size ≤ ra := HU1.out.h1
          have hr2 : w2.heap.size ≤ rb := by have := HU1.out.h1; have := HU1.out.h2; have := HU1.out.h3; omega
          have HST := Lib.hid (And.intro hst hst2)
          clear hk hE hst hst2
          go_region_held3 (fun W' => (W'.cell? ⟨T9, 0, none⟩ = some (.int .i64 kd) ∧ W'.cell? ⟨T9, 1, none⟩ = some (.int .u64 ky) ∧ T9 < W'.heap.size) ∧ Blk W' T9 #[.int .i64 kd, .int .u64 ky] 70)
            (first | exact HK.out _ h9 | exact HK.out _ (h9.later (Below.refl _ _).drew))
            (first
              | (go_at_call 38; (with_reducible refine (HMA.out _ (by first | exact hca | exact hca.drew)).mono ?_); rintro e w5 ⟨rfl, XA, hXA⟩; have hbA := hXA.out.1; have h9 := hbA.blk (by first | exact h9 | exact h9.later (Below.refl _ _).drew) hTa; have hlw := low_but (by first | exact hlw | exact hlw.drew) hbA hr1; have hcaN := hXA.out.2.1; (first | (have hcbN := Cur.but hcbN hbA hba ho1) | (have hcb := Cur.but hcb hbA hba ho1) | (have hcb := Cur.but hcb.drew hbA hba ho1)))
              | (go_at_call 38; (with_reducible refine (HMB.out _ (by first | exact hcb | exact hcb.drew)).mono ?_); rintro e w6 ⟨rfl, XB, hXB⟩; have hbB := hXB.out.1; have h9 := hbB.blk (by first | exact h9 | exact h9.later (Below.refl _ _).drew) hTb; have hlw := low_but (by first | exact hlw | exact hlw.drew) hbB hr2; have hcbN := hXB.out.2.1; (first | (have hcaN := Cur.but hcaN hbB hab ho2) | (have hca := Cur.but hca hbB hab ho2) | (have hca := Cur.but hca.drew hbB hab ho2))))
          all_goals
            have hexr := MvR.eqx hXA.out.2.2 hXB.out.2.2 HU1.out.eq
            have hsA := MvR.steps hXA.out.2.2 HU1.out.ca.rowl
            have hsB := MvR.steps hXB.out.2.2 HU1.out.cb.rowl
            have HS6 := Lib.hid (SkI.mk (k := k + 1) hlw hcaN hcbN HU1.out.h1 HU1.out.h2 HU1.out.h3 hexr (by have := HST.out.1; omega) (by have := HST.out.2; omega))
            clear hexr hsA hsB hlw hcaN hcbN hXA hXB hbA hbB h9
            go_wp2_with fail
            go_roundw
            · refine ⟨k + 1, XA, XB, HLT.out, by simp, ?_⟩
              rw [Nat.min_eq_left (by have := HK8.out; omega)]
              exact HS6
            · have := HLT.out
              simp [intOf]
              omega
        · have hc2 : decide ((k : Int) < 8) = false := by simp; omega
          have HK8 := Lib.hid h8
          clear h8
          go_wp2_with fail
          obtain ⟨W1, hW1⟩ : ∃ W1, W1 = wr.alloc (.cells #[.int .i64 kd, .int .u64 ky] 70) := ⟨_, rfl⟩
          have hal : Below wr.heap.size wr W1 := by rw [hW1]; exact (Below.refl _ _).alloc (Nat.le_refl _) _
          have h9 : Blk W1 wr.heap.size #[.int .i64 kd, .int .u64 ky] 70 := by rw [hW1]; exact Blk.new _ _ _
          rw [← hW1]
          have hTa : wr.heap.size ≠ ra := by have := HU.out.ca.lt; omega
          have hTb : wr.heap.size ≠ rb := by have := HU.out.cb.lt; omega
          obtain ⟨T9, hT⟩ : ∃ T9, T9 = wr.heap.size := ⟨_, rfl⟩
          rw [← hT] at h9 hTa hTb ⊢
          have HU1 := Lib.hid (HU.out.later hal)
          clear hW1 hal hT HU e0 e2
          go_quiet (fail)
          go_wp2_with fail
          go_roundw
          · refine ⟨k + 1, X, Y, HLT.out, by simp, ?_⟩
            have h := HU1.out.later (below_drN (Below.refl _ _) nq)
            rw [Nat.min_eq_right (by have := HK8.out; omega)] at h ⊢
            exact Lib.hid h
          · have := HLT.out
            simp [intOf]
            omega
      · have hc : decide ((k : Int) < (n : Int)) = false := by simp; omega
        have hs8 : X.s ≤ 3200 ∧ Y.s ≤ 3200 := by have := HU.out.sa; have := HU.out.sb; have := Nat.min_le_right k 8; omega
        have HS8 := Lib.hid hs8
        clear hs8
        go_wp2_with fail
        refine (kSteps_any HU.out.ca).mono ?_
        rintro e W1 ⟨rfl, rfl⟩
        go_wp2_with fail
        refine (kLeft_any HU.out.ca).mono ?_
        rintro e W2 ⟨rfl, ba⟩
        have HU2 := Lib.hid (HU.out.later ba)
        clear ba HU
        go_wp2_with fail
        refine (kSeek_any HU2.out.ca (by have := HS8.out.1; omega) HUB.out HUL.out key HK01.out.1 HK01.out.2).mono ?_
        by_cases hce : cerr 4 X = 0
        · rintro e W3 hM
          obtain ⟨hb3, rfl, q3, hq3, hC3⟩ := mvd_ok hM hce
          obtain ⟨F, hF⟩ : ∃ F, F = cfar key X := ⟨_, rfl⟩
          obtain ⟨L, hL⟩ : ∃ L, L = X.row.length := ⟨_, rfl⟩
          obtain ⟨hq1, hq2⟩ := (hq3 rfl).1
          have hX4 : cgo BS LS 4 key q3 X = X.on F q3 := by rw [hF]; rfl
          rw [hX4] at hC3
          rw [← hF] at hq2
          rw [← hL]
          have hFL : F ≤ L := by rw [hF, hL]; exact sk_le (Nat.zero_le _)
          have hLb : L ≤ 100000 := by rw [hL]; exact HU2.out.ca.rowl
          have hdX : 0 < X.d := by
            by_cases h0 : X.d = 0
            · simp [cerr, h0] at hce
            · omega
          have hbef : ∀ j (hj : j < X.row.length), j < F → X.row[j] < key := by
            intro j hj hjF
            rw [hF] at hjF
            have := sk_before (p := ge key) (Nat.zero_le j) hjF hj
            simpa [ge] using this
          have haft : ∀ hj : F < X.row.length, key ≤ X.row[F] := by
            intro hj
            have h0 : sk (ge key) X.row 0 < X.row.length := by rw [hF] at hj; exact hj
            have h1 := sk_at (p := ge key) h0
            have h2 : X.row[F] = X.row[sk (ge key) X.row 0] := by congr 1
            rw [h2]
            simpa [ge] using h1
          obtain ⟨X4, h4⟩ : ∃ X4, X4 = X.on F q3 := ⟨_, rfl⟩
          rw [← h4] at hC3
          obtain ⟨L4, hL4'⟩ : ∃ L4, L4 = L - F := ⟨_, rfl⟩
          have hL4 : X4.row.length = L4 := by rw [h4, on_row, List.length_drop, ← hL, hL4']
          have hs4 : X4.s = X.s + q3 := by rw [h4, on_s]
          have HEQ4 := Lib.hid (fun (Z : Cs) (g : eqx (X.on F 0) Z) => (show eqx X4 Z by rw [h4]; exact eqx_trans (on_any X F q3 0) g))
          have hne1 : rb ≠ ra := by have := HU2.out.h2; have := HU2.out.h3; omega
          have HJ0 : Hid (SkJ w2.heap.size w3.heap.size ra rb w2 W3 BS LS X X4 Y 0) := Lib.hid ⟨low_but HU2.out.low hb3 HU2.out.h1, hC3, HU2.out.cb.but hb3 hne1 (.inl HU2.out.h2), HU2.out.h1, HU2.out.h2, HU2.out.h3, eqx_trans (on_zero X) HU2.out.eq, by have := HS8.out.2; omega⟩
          have hlg : Nat.log2 (1 + (F : Int)).toNat = Nat.log2 (1 + F) := by rw [show (1 + (F : Int)).toNat = 1 + F by omega]
          obtain ⟨G, hG⟩ : ∃ G, G = Nat.log2 (1 + F) := ⟨_, rfl⟩
          rw [← hG] at hq2 hlg
          have hGb : G < 63 := by rw [hG]; exact log2_lt63 (by omega)
          have r1 : IntKind.i64.wrap ((L : Int) - (L4 : Int)) = (F : Int) := by rw [IntKind.wrap_i64]; omega
          have r2 : IntKind.i64.wrap ((X4.s : Int) - (X.s : Int)) = (q3 : Int) := by rw [IntKind.wrap_i64]; have := HS8.out.1; omega
          have r3 : IntKind.i64.wrap (1 + (F : Int)) = 1 + (F : Int) := by rw [IntKind.wrap_i64]; omega
          have r4 : IntKind.i64.wrap (2 * (G : Int)) = 2 * (G : Int) := by rw [IntKind.wrap_i64]; omega
          have r5 : IntKind.i64.wrap (2 + 2 * (G : Int)) = 2 + 2 * (G : Int) := by rw [IntKind.wrap_i64]; omega
          have r6 : (1 : Int) ≤ (q3 : Int) := by omega
          have r7 : (q3 : Int) ≤ 2 + 2 * (G : Int) := by omega
          have R8 := Lib.hid (show (-9223372036854775808 : Int) ≤ 1 + (F : Int) ∧ 1 + (F : Int) ≤ 9223372036854775807 ∧ Nat.log2 (1 + (F : Int)).toNat = G from ⟨by omega, by omega, hlg⟩)
          have HBEF := Lib.hid hbef
          have HAFT := Lib.hid haft
          have HL := Lib.hid hL
          have HDX := Lib.hid hdX
          have HFL := Lib.hid hFL
          clear hM hb3 hq3 hC3 hF hL hq1 hq2 hX4 hFL hbef haft h4 hL4' hs4 hG hGb HU2 hce hdX hlg
          go_wp2_with fail
          go_loopw [17, 18, 86, 87, 88, 89, 90, 91, 92, 93, 94, 95, 96, 97, 98, 99, 100, 101, 102, 103, 104, 105] (fun _ _ s86 _ _ _ _ _ _ _ _ _ _ _ _ _ _ _ _ _ _ _ wq => ∃ (j : Nat) (Z : Cs), j ≤ F ∧ s86 = .int .i64 (j : Int) ∧ Hid (SkJ w2.heap.size w3.heap.size ra rb w2 wq BS LS X X4 Z j)) (fun _ _ s86 _ _ _ _ _ _ _ _ _ _ _ _ _ _ _ _ _ _ _ _ => L + 1 - (intOf s86).toNat)
          case atStart => exact ⟨0, Y, Nat.zero_le _, rfl, HJ0⟩
          case round =>
            obtain ⟨j, Z, hjF, rfl, HJ⟩ := hrel
            clear HJ0
            by_cases hjL : j < L
            · have hjr : j < X.row.length := by have := HL.out; omega
              have hrow : Z.row = X.row.drop j := by rw [← HJ.out.eq.row, on_row]
              have hck : ckey Z = X.row[j] := by unfold ckey; rw [hrow, drop_cons8 hjr]; rfl
              have hne : decide (Z.row ≠ []) = true := by rw [hrow, drop_cons8 hjr]; exact decide_eq_true (List.cons_ne_nil _ _)
              have hjc : (j : Int) < (L : Int) := by omega
              obtain ⟨x, hx⟩ : ∃ x, x = X.row[j] := ⟨_, rfl⟩
              rw [← hx] at hck
              by_cases hjf : j < F
              · have hxk : decide (key ≤ x) = false := by rw [hx]; have := HBEF.out j hjr hjf; simp; omega
                have hc3 : cerr 3 Z = 0 := by
                  have hz : Z.row ≠ [] := of_decide_eq_true hne
                  have hd : 0 < Z.d := by rw [← HJ.out.eq.1, on_d]; exact HDX.out
                  simp [cerr, hz]
                  omega
                have HC3 := Lib.hid hc3
                have HCN := Lib.hid (And.intro hck hne)
                have HJL := Lib.hid hjf
                clear hrow hck hne hx hjr hc3 hjF hjf hjL
                go_wp2_with fail
                refine (kKey_any HJ.out.cb).mono ?_
                rw [HCN.out.1, HCN.out.2]
                rintro e wc ⟨rfl, bc⟩
                have HJc := Lib.hid (HJ.out.later bc)
                clear bc HJ
                go_wp2_with fail
                refine (kNext_any HJc.out.cb (by have := HJc.out.sb; have := HFL.out; have := HJL.out; omega) HUB.out HUL.out).mono ?_
                rintro e wd hM
                obtain ⟨hbd, rfl, qd, _, hCd⟩ := mvd_ok hM HC3.out
                have e9 : cgo BS LS 3 0 qd Z = Z.on 1 1 := rfl
                rw [e9] at hCd
                have HJd : Hid (SkJ w2.heap.size w3.heap.size ra rb w2 wd BS LS X X4 (Z.on 1 1) (j + 1)) := Lib.hid ⟨low_but HJc.out.low hbd (by have := HJc.out.h1; have := HJc.out.h2; have := HJc.out.h3; omega), HJc.out.ca.but hbd hne1.symm (.inr (by have := HJc.out.h2; have := HJc.out.h3; omega)), hCd, HJc.out.h1, HJc.out.h2, HJc.out.h3, eqx_trans (eqx_symm (on_more X j)) (HJc.out.eq.on 1 1 1), by rw [on_s]; have := HJc.out.sb; omega⟩
                clear hM hbd hCd e9 HJc
                go_wp2_with fail
                go_roundw
                · exact ⟨j + 1, Z.on 1 1, HJL.out, by simp, HJd⟩
                · have := HJL.out
                  have := HFL.out
                  simp [intOf]
                  omega
              · obtain rfl : F = j := by omega
                have hxk : decide (key ≤ x) = true := by rw [hx]; simpa using HAFT.out hjr
                have HCN := Lib.hid (And.intro hck hne)
                clear hrow hck hne hx hjr hjF hjf hjL
                go_wp2_with fail
                refine (kKey_any HJ.out.cb).mono ?_
                rw [HCN.out.1, HCN.out.2]
                rintro e wc ⟨rfl, bc⟩
                have HJ := Lib.hid (HJ.out.later bc)
                clear bc
                go_wp2_with fail
                refine (kLeft_any HJ.out.ca).mono ?_
                rw [hL4]
                rintro e wd ⟨rfl, bd⟩
                have HJd := Lib.hid (HJ.out.later bd)
                clear bd HJ
                go_wp2_with fail
                refine (kSteps_any HJd.out.ca).mono ?_
                rintro e we ⟨rfl, rfl⟩
                go_wp2_with fail
                refine (kPath_any HJd.out.ca).mono ?_
                rintro e wf ⟨v1, rfl, hO1, bf⟩
                have HO1 := Lib.hid hO1.seg
                have HJf := Lib.hid (HJd.out.later bf)
                clear bf HJd hO1
                go_wp2_with fail
                refine (kPath_any HJf.out.cb).mono ?_
                rw [show cpath Z = cpath X4 from (eqx.path (HEQ4.out Z HJf.out.eq)).symm]
                rintro e wg ⟨v2, rfl, hO2, bg⟩
                have HO2 := Lib.hid hO2.seg
                have HO1g := Lib.hid (HO1.out.later bg)
                have HJg := Lib.hid (HJf.out.later bg)
                clear bg HJf hO2 HO1
                go_wp2_with fail
                refine (equalu_same HO1g.out HO2.out).mono ?_
                rintro e wh ⟨rfl, bh⟩
                have HJh := Lib.hid (HJg.out.later bh)
                clear bh HJg HO1g HO2
                go_wp2_with fail
                refine (kLeft_any HJh.out.ca).mono ?_
                rw [hL4]
                rintro e wi ⟨rfl, bi⟩
                have HJi := Lib.hid (HJh.out.later bi)
                clear bi HJh
                go_wp2_with fail
                refine (kLeft_any HJi.out.cb).mono ?_
                rw [show Z.row.length = L4 by rw [← (HEQ4.out Z HJi.out.eq).row]; exact hL4]
                rintro e wk ⟨rfl, bk⟩
                have hlow := below_later G2.out (HJi.out.later bk).low
                clear bk HJi
                go_wp2_with fail
                refine (gLog_any (1 + (F : Int)) R8.out.1 R8.out.2.1 _).mono ?_
                rw [R8.out.2.2]
                rintro e wl ⟨rfl, rfl⟩
                go_wp2_with fail
                go_ret
                exact ⟨rfl, hlow⟩
            · have hjf : F = j := by have := HFL.out; omega
              have hjc : decide ((j : Int) < (L : Int)) = false := by simp; omega
              subst hjf
              go_wp2_with fail
              refine (kLeft_any HJ.out.ca).mono ?_
              rw [hL4]
              rintro e wd ⟨rfl, bd⟩
              have HJd := Lib.hid (HJ.out.later bd)
              clear bd HJ
              go_wp2_with fail
              refine (kSteps_any HJd.out.ca).mono ?_
              rintro e we ⟨rfl, rfl⟩
              go_wp2_with fail
              refine (kPath_any HJd.out.ca).mono ?_
              rintro e wf ⟨v1, rfl, hO1, bf⟩
              have HO1 := Lib.hid hO1.seg
              have HJf := Lib.hid (HJd.out.later bf)
              clear bf HJd hO1
              go_wp2_with fail
              refine (kPath_any HJf.out.cb).mono ?_
              rw [show cpath Z = cpath X4 from (eqx.path (HEQ4.out Z HJf.out.eq)).symm]
              rintro e wg ⟨v2, rfl, hO2, bg⟩
              have HO2 := Lib.hid hO2.seg
              have HO1g := Lib.hid (HO1.out.later bg)
              have HJg := Lib.hid (HJf.out.later bg)
              clear bg HJf hO2 HO1
              go_wp2_with fail
              refine (equalu_same HO1g.out HO2.out).mono ?_
              rintro e wh ⟨rfl, bh⟩
              have HJh := Lib.hid (HJg.out.later bh)
              clear bh HJg HO1g HO2
              go_wp2_with fail
              refine (kLeft_any HJh.out.ca).mono ?_
              rw [hL4]
              rintro e wi ⟨rfl, bi⟩
              have HJi := Lib.hid (HJh.out.later bi)
              clear bi HJh
              go_wp2_with fail
              refine (kLeft_any HJi.out.cb).mono ?_
              rw [show Z.row.length = L4 by rw [← (HEQ4.out Z HJi.out.eq).row]; exact hL4]
              rintro e wk ⟨rfl, bk⟩
              have hlow := below_later G2.out (HJi.out.later bk).low
              clear bk HJi
              go_wp2_with fail
              refine (gLog_any (1 + (F : Int)) R8.out.1 R8.out.2.1 _).mono ?_
              rw [R8.out.2.2]
              rintro e wl ⟨rfl, rfl⟩
              go_wp2_with fail
              go_ret
              exact ⟨rfl, hlow⟩
        · rintro e W3 ⟨hb3, rfl, ⟨h1, _⟩ | ⟨_, hC3⟩⟩
          · exact absurd h1 hce
          have hd : X.d = 0 ∨ X.row.length = 0 := by
            by_cases h0 : X.d = 0
            · exact .inl h0
            · by_cases hr0 : X.row = []
              · exact .inr (by rw [hr0]; rfl)
              · exact absurd (by simp [cerr, h0, hr0]) hce
          have hlow := below_later G2.out (low_but HU2.out.low hb3 HU2.out.h1)
          obtain ⟨E, hE⟩ : ∃ E, E = cerr 4 X := ⟨_, rfl⟩
          rw [← hE] at hce ⊢
          have hE0 : (E == 0) = false := by simpa using hce
          have HC3 := Lib.hid hC3
          have HD := Lib.hid hd
          clear hb3 hC3 hE hce HU2 hd
          go_wp2_with fail
          refine (kSteps_any HC3.out).mono ?_
          rintro e W4 ⟨rfl, rfl⟩
          go_wp2_with fail
          refine (kDepth_any HC3.out).mono ?_
          rintro e W5 ⟨rfl, rfl⟩
          by_cases h0 : X.d = 0
          · rw [h0]
            go_wp2_with fail
            go_ret
            exact ⟨rfl, hlow⟩
          · have hl0 := HD.out.resolve_left h0
            have hd0 : ((X.d : Int) == 0) = false := by simp; omega
            rw [hl0]
            clear h0 hl0 HD
            go_wp2_with fail
            go_ret
            exact ⟨rfl, hlow⟩
  · rintro e w3 ⟨b3, hN⟩
    rw [if_neg hok] at hN
    subst hN
    have HB3 := Lib.hid b3
    have HOK := Lib.hid hok
    have kt3 := KT.out.later b3
    obtain ⟨t0, t1, tl⟩ := kt3.two
    have g3 := g2.trans (b3.mono g2.size)
    clear b3 hok g2 kt3
    go_wp2_with fail
    refine (cnew_any o1 m1 y1 o2 q2 y2 BS LS w3 (SB.out.later HB3.out) (SL.out.later HB3.out) HM1.out HQ1.out (by have := HM1.out; have := HB40.out; omega) (by have := HQ1.out; have := HL80.out; omega)).mono ?_
    rintro e w4 ⟨b4, hN⟩
    rw [if_neg HOK.out] at hN
    subst hN
    have g4 := g3.trans (b4.mono g3.size)
    clear b4 g3 t0 t1 tl
    go_wp2_with fail
    go_ret
    exact ⟨rfl, g4⟩
end Go.Proofs.Ytjfnhjmdgfkgnaa


/- An argument that is a row of moves. -/
namespace Go.Proofs.Ytjfnhjmdgfkgnaa
open Go.ChangeShapes Go.WideShapes Go.ChangeAt Go.RowKit Go.Joins Go.Proofs.Kit
theorem cells_move : Try.prog.cellsOf 70 = 2 := by kernel_rfl
section
variable {H : Type} {enc : TypeId × Value → H} {W : World}
set_option maxRecDepth 100000 in
theorem cells_moves_open {fuel : Nat} {v : Value} {x : DataW H × List MemPlace} (h : DataW.trod enc Try.prog W 0 (fun _ => true) true fuel 59 [v] = some x) :
    ∃ (o : Option Addr) (n c : Nat) (l : List Mv), v = .slice o n c ∧ l.length = n ∧ n ≤ c ∧ c ≤ 9223372036854775807 ∧ ArgM W o c l ∧ ∀ x ∈ l, 0 ≤ x.2 ∧ x.2 < 18446744073709551616 := by
  rcases Deep.open_slice Try.underlying59 h with ⟨h0, _⟩ | ⟨a, len, cap, m, n, D, Pl, h0, _, hl, hm, hmm, _, hx⟩
  · simp only [List.cons.injEq, and_true] at h0
    exact ⟨none, 0, 0, [], h0, rfl, by omega, by omega, .inl ⟨rfl, rfl, rfl⟩, by simp⟩
  · simp only [List.cons.injEq, and_true] at h0
    subst h0
    simp only [if_true] at hmm
    have each : ∀ i, i < len → ∃ q : Mv, (0 ≤ q.2 ∧ q.2 < 18446744073709551616) ∧ W.cell? (a.add (i * 2)) = some (.int .i64 q.1) ∧ W.cell? (a.add (i * 2 + 1)) = some (.int .u64 q.2) := by
      intro i hi
      obtain ⟨cs', h1, h2⟩ := hx i (by omega)
      rw [cells_move] at h1
      obtain ⟨_, hlen, hcell⟩ := World.cells?_some h1
      obtain ⟨xs, k, _, _, _, hxl, hf⟩ := DataW.trod_struct Try.underlying70 h2
      match xs, hxl, cs', hlen with
      | [y0, y1], _, [v0, v1], _ =>
        have g0 := hf 0 _ rfl
        have g1 := hf 1 _ rfl
        simp [cells_u64, cells_int] at g0 g1
        have e0 := hcell 0 (by omega)
        have e1 := hcell 1 (by omega)
        rw [Deep.add_add] at e0 e1
        obtain ⟨x0, z0, _, _⟩ := DataW.trod_int Try.underlying3 g0
        obtain ⟨x1, z1, _, hw1⟩ := DataW.trod_int Try.underlying32 g1
        simp only [List.cons.injEq, and_true] at z0 z1
        subst z0 z1
        exact ⟨(x0, x1), wf_u64 hw1, by simpa using e0, by simpa using e1⟩
    obtain ⟨q, hq⟩ := Deep.choose_lt each
    unfold maxLen at hm
    refine ⟨some a, len, cap, (List.range len).map q, rfl, by simp, hl, by omega, .inr ⟨a, rfl, fun i hi => ?_⟩, fun x hx => ?_⟩
    · have hi' : i < len := by simpa using hi
      simp only [List.getElem_map, List.getElem_range]
      exact (hq i hi').2
    · obtain ⟨i, hi, rfl⟩ := List.mem_map.1 hx
      exact (hq i (List.mem_range.1 hi)).1
set_option maxRecDepth 100000 in
theorem open_argM {r : Reach} {b0 : Nat} {v : Value} {d : DataW H} {p : List MemPlace} (hv : Value.okWide Try.prog W r b0 59 v) (h : DataW.Trod enc Try.prog W 0 (fun _ => true) true 59 v d p) :
    ∃ (o : Option Addr) (n c : Nat) (l : List Mv), v = .slice o n c ∧ l.length = n ∧ n ≤ c ∧ c ≤ 9223372036854775807 ∧ ArgM W o c l ∧ ∀ x ∈ l, 0 ≤ x.2 ∧ x.2 < 18446744073709551616 := by
  obtain ⟨o, len, cap, rfl⟩ := okWide_slice Try.underlying59 hv
  obtain ⟨fuel, hf⟩ := h
  exact cells_moves_open hf
end
end Go.Proofs.Ytjfnhjmdgfkgnaa

