/- CursorUp: up it stands where it stood; with an error it stays; steps never fall. -/
import Derived.Test.YtjfnhjmdgfkgnaaVC
namespace Go.Proofs.Ytjfnhjmdgfkgnaa
open Go.RowKit Go.Proofs.Kit Go.Shelf

abbrev Mv : Type := Int × Int
/-- An argument that is a slice of moves. -/
def ArgM (w : World) (o : Option Addr) (c : Nat) (l : List Mv) : Prop := (o = none ∧ l = [] ∧ c = 0) ∨ ∃ a, o = some a ∧ ∀ i (h : i < l.length), w.cell? (a.add (i * 2)) = some (.int .i64 l[i].1) ∧ w.cell? (a.add (i * 2 + 1)) = some (.int .u64 l[i].2)
theorem ArgM.later {w w' : World} {o : Option Addr} {c : Nat} {l : List Mv} (h : ArgM w o c l) (hb : Below w.heap.size w w') : ArgM w' o c l := by
  rcases h with h | ⟨a, rfl, h⟩
  · exact .inl h
  · exact .inr ⟨a, rfl, fun i hi => ⟨(hb.cell (World.block_lt_of_cell? _ _ (h i hi).1)).trans (h i hi).1, (hb.cell (World.block_lt_of_cell? _ _ (h i hi).2)).trans (h i hi).2⟩⟩
/-- A row of numbers that lies apart from the cursor. -/
def P8 (r : Nat) (w : World) (v : Value) (l : List Int) : Prop := Seg .u64 w v l ∧ ∀ b, v.ownBlock = some b → b ≠ r
theorem P8.later {r : Nat} {w w' : World} {v : Value} {l : List Int} (h : P8 r w v l) (hb : Below w.heap.size w w') : P8 r w' v l := ⟨h.1.later hb, h.2⟩
theorem P8.but {r : Nat} {w w' : World} {v : Value} {l : List Int} (h : P8 r w v l) (hb : But r w w') : P8 r w' v l := ⟨hb.seg h.1 h.2, h.2⟩
theorem P8.of_owns {r B : Nat} {w : World} {v : Value} {l : List Int} (h : Owns .u64 32 B w v l) (hr : r < B) : P8 r w v l := ⟨h.seg, fun b hb => by have := (h.lt b hb).1; omega⟩
structure UpI (lo r : Nat) (w2 w : World) (bs : List Br) (lv : List Int) (X : Cs) (k : Nat) : Prop where
  low : Below lo w2 w
  cur : Cur lo r w bs lv X
  hr : lo ≤ r
  st : X.s ≤ 400 * k
theorem Cur.lt {lo r : Nat} {w : World} {bs : List Br} {lv : List Int} {X : Cs} (h : Cur lo r w bs lv X) : r < w.heap.size := by
  obtain ⟨_, _, _, _, _, _, _, _, _, _, _, _, _, _, _, hk, _⟩ := h
  exact hk.lt
theorem Cur.cok {lo r : Nat} {w : World} {bs : List Br} {lv : List Int} {X : Cs} (h : Cur lo r w bs lv X) : Cok bs lv X := by
  obtain ⟨_, _, _, _, _, _, _, _, _, _, _, _, _, _, _, _, h⟩ := h
  exact h.ck
theorem Cur.rowl {lo r : Nat} {w : World} {bs : List Br} {lv : List Int} {X : Cs} (h : Cur lo r w bs lv X) : X.row.length ≤ 100000 := by
  obtain ⟨_, _, _, _, _, _, _, _, _, _, _, _, _, _, _, _, h⟩ := h
  exact row_len h
theorem UpI.later {lo r k : Nat} {w2 w w' : World} {bs : List Br} {lv : List Int} {X : Cs} (h : UpI lo r w2 w bs lv X k) (hb : Below w.heap.size w w') : UpI lo r w2 w' bs lv X k :=
  ⟨h.low.trans (hb.mono (by have := h.hr; have := h.cur.lt; omega)), h.cur.later hb, h.hr, h.st⟩
theorem UpI.mv {lo r k k' : Nat} {w2 w w' : World} {bs : List Br} {lv : List Int} {X X' : Cs} (h : UpI lo r w2 w bs lv X k) (hb : But r w w') (hc : Cur lo r w' bs lv X') (hs : X'.s ≤ 400 * k') : UpI lo r w2 w' bs lv X' k' :=
  ⟨h.low.trans (hb.below h.hr (by have := h.hr; have := h.cur.lt; omega)), hc, h.hr, hs⟩
theorem equalu_same {w : World} {v1 v2 : Value} {L : List Int} (h1 : Seg .u64 w v1 L) (h2 : Seg .u64 w v2 L) : Calls Try.prog 15 #[v1, v2] w fun e w' => e = .returned (.bool true) ∧ Below w.heap.size w w' :=
  (equalu_seg v1 v2 L L w h1 h2).mono fun _ _ ⟨h, h'⟩ => ⟨by rw [h]; simp, h'⟩
/-- Steps never fall, and grow by few. -/
theorem steps_go {bs : List Br} {lv : List Int} {X : Cs} {k key : Int} {q : Nat} (h : cerr k X = 0) (hl : X.row.length ≤ 100000) (hq : Lk8 k key X q) : X.s ≤ (cgo bs lv k key q X).s ∧ (cgo bs lv k key q X).s ≤ X.s + 200 := by
  have hon : ∀ p q, (X.on p q).s = X.s + q := by intro p q; unfold Cs.on; split <;> rfl
  unfold cgo
  split
  · unfold copen; split <;> simp
  · split
    · unfold cup; split <;> simp
    · split
      · rw [hon]; omega
      · rw [hon]
        rename_i h1 h2 h3
        have h4 : k = 4 := by
          by_cases c : k < 1 ∨ 4 < k
          · simp [cerr, c] at h
          · omega
        have h5 := (hq h4).1.2
        have h6 : cfar key X ≤ X.row.length := sk_le (Nat.zero_le _)
        have h7 := log2_lt63 (m := 1 + cfar key X) (by omega)
        omega
/-- Opened, up, and opened again. -/
theorem up_again {bs : List Br} {lv : List Int} {X : Cs} (hk : Cok bs lv X) (h : cerr 1 X = 0) :
    cerr 2 (copen bs lv X) = 0 ∧ cpath (cup (copen bs lv X)) = cpath X ∧ (cup (copen bs lv X)).row.length = X.row.length ∧ cerr 1 (cup (copen bs lv X)) = 0 ∧ cpath (copen bs lv (cup (copen bs lv X))) = cpath (copen bs lv X) ∧
      (copen bs lv (cup (copen bs lv X))).row.length = (copen bs lv X).row.length ∧ (copen bs lv (cup (copen bs lv X))).s = (copen bs lv X).s + 1 ∧ (cup (copen bs lv X)).s = (copen bs lv X).s ∧ (copen bs lv X).s = X.s + 1 := by
  have hd := hk.d2
  rcases (by omega : X.d = 0 ∨ X.d = 1 ∨ X.d = 2) with e | e | e
  · have h0 := hk.z0 e
    have h1 := hk.z1 (by omega)
    have ho : copen bs lv X = ⟨1, keysB bs, [], X.s + 1⟩ := by unfold copen; rw [if_pos e]
    rw [ho]
    have hu : cup ⟨1, keysB bs, [], X.s + 1⟩ = ⟨0, [], [], X.s + 1⟩ := rfl
    rw [hu]
    have h2 : copen bs lv ⟨0, [], [], X.s + 1⟩ = ⟨1, keysB bs, [], X.s + 1 + 1⟩ := rfl
    rw [h2]
    simp [cerr, cpath, Cs.row, e, h0, h1]
  · have h1 := hk.z1 (by omega)
    have hne : X.r0 ≠ [] := by
      intro hne
      simp [cerr, e, Cs.row, hne] at h
    have ho : copen bs lv X = ⟨2, X.r0, lvs lv (brAt bs X), X.s + 1⟩ := by unfold copen; rw [if_neg (by omega)]
    rw [ho]
    have hu : cup ⟨2, X.r0, lvs lv (brAt bs X), X.s + 1⟩ = ⟨1, X.r0, [], X.s + 1⟩ := rfl
    rw [hu]
    have h2 : copen bs lv ⟨1, X.r0, [], X.s + 1⟩ = ⟨2, X.r0, lvs lv (brAt bs X), X.s + 1 + 1⟩ := rfl
    rw [h2]
    simp [cerr, cpath, Cs.row, e, h1, hne]
  · simp [cerr, e] at h
set_option maxRecDepth 100000 in
set_option maxHeartbeats 16000000 in
theorem up_true (ob : Option Addr) (m cb : Nat) (ol : Option Addr) (q cl : Nat) (bs : List Br) (lv : List Int) (om : Option Addr) (n cm : Nat) (ms : List Mv) (w : World) (hm : bs.length = m) (hmc : m ≤ cb) (hcb : cb ≤ 9223372036854775807) (ab : ArgR w ob cb bs) (hq : lv.length = q) (hqc : q ≤ cl) (hcl : cl ≤ 9223372036854775807) (al : ArgI .u64 w ol cl lv) (hu : U64s (keysB bs)) (hl : U64s lv)
    (hn : ms.length = n) (hnc : n ≤ cm) (hcm : cm ≤ 9223372036854775807) (am : ArgM w om cm ms) (hk : ∀ x ∈ ms, 0 ≤ x.2 ∧ x.2 < 18446744073709551616) :
    Calls Try.prog 10 #[.agg #[.slice ob m cb, .slice ol q cl], .slice om n cm] w fun e w' => e = .returned (.bool true) ∧ Below w.heap.size w w' := by
  have HOWN := Lib.hid (fun W (g : Below w.heap.size w W) => own8_any ob m cb ol q cl bs lv W hm hmc hcb (ab.later g) hq hqc hcl (al.later g))
  have hub : U64s (keysB (bs.take 40)) := fun x hx => hu x (by unfold keysB at hx ⊢; rw [List.map_take] at hx; exact List.mem_of_mem_take hx)
  have hul : U64s (lv.take 80) := fun x hx => hl x (List.mem_of_mem_take hx)
  have hb40 : (bs.take 40).length ≤ 40 := by simp; omega
  have hl80 : (lv.take 80).length ≤ 80 := by simp; omega
  obtain ⟨BS, hBS⟩ : ∃ BS, BS = bs.take 40 := ⟨_, rfl⟩
  obtain ⟨LS, hLS⟩ : ∃ LS, LS = lv.take 80 := ⟨_, rfl⟩
  rw [← hBS] at hub hb40 HOWN
  rw [← hLS] at hul hl80 HOWN
  have HUB := Lib.hid hub
  have HUL := Lib.hid hul
  have HB40 := Lib.hid hb40
  have HL80 := Lib.hid hl80
  have HN := Lib.hid hn
  have HAM := Lib.hid am
  have HKM := Lib.hid hk
  clear hm hmc hcb ab hq hqc hcl al hu hl hub hul hb40 hl80 hBS hLS hn am hk
  go_enter Try.func10, Try.ntmps10
  go_wp2_with fail
  refine (wakes8_true _).mono ?_
  rintro e w1 ⟨rfl, l1⟩
  have k1 := (Blk.new w #[.slice ob m cb, .slice ol q cl] 25).later l1
  have g1 : Below w.heap.size w w1 := ((Below.refl _ _).alloc (Nat.le_refl _) _).trans (l1.mono (by simp))
  obtain ⟨c0, c1, lc⟩ := k1.two
  clear k1 l1
  go_wp2_with fail
  refine (HOWN.out _ g1).mono ?_
  rintro e w2 ⟨o1, m1, y1, o2, q2, y2, rfl, hOB, hOL, lo1⟩
  have g2 := g1.trans (lo1.mono g1.size)
  have hm1 := segR_lenV hOB.seg
  have hq1 := segU_len hOL.seg
  have SB := Lib.hid hOB.seg
  have SL := Lib.hid hOL.seg
  have HM1 := Lib.hid hm1
  have HQ1 := Lib.hid hq1
  clear lo1 g1 c0 c1 lc HOWN hOB hOL hm1 hq1
  go_wp2_with fail
  refine (cnew_any o1 m1 y1 o2 q2 y2 BS LS w2 SB.out SL.out HM1.out HQ1.out (by have := HM1.out; have := HB40.out; omega) (by have := HQ1.out; have := HL80.out; omega)).mono ?_
  by_cases hok : ok7 BS LS
  · rintro e w3 ⟨b3, hN⟩
    rw [if_pos hok] at hN
    obtain ⟨r, rfl, hr, hC⟩ := hN
    have HU3 : Hid (UpI w2.heap.size r w2 w3 BS LS ⟨0, [], [], 0⟩ 0) := Lib.hid ⟨b3, hC, hr, by simp⟩
    have G2 := Lib.hid g2
    clear hC b3 hok g2 hr
    go_wp2_with fail
    go_loopw [7, 8, 9, 10, 11, 12, 13, 14, 29, 30, 31, 32, 33, 34, 35, 36, 37, 38, 39, 40, 41, 42, 43, 44, 45, 46, 47, 48, 49, 50, 51, 52, 53, 54, 55, 56, 57, 58, 59, 60, 61, 62, 63, 64, 65, 66, 67, 68, 69, 70, 71, 72, 73, 74, 75, 76, 77, 78, 79, 80, 81, 82, 83, 84, 85, 86, 87, 88, 89, 90, 91, 92, 93, 94, 95, 96, 97, 98, 99, 100, 101, 102, 103, 104, 105, 106, 107, 108, 109, 110, 111, 112, 113, 114, 115, 116, 117, 118, 119, 120, 121, 122, 123, 124, 125] (fun s7 _ _ _ _ _ _ _ s29 _ _ _ _ _ _ _ _ _ _ _ _ _ _ _ _ _ _ _ _ _ _ _ _ _ _ _ _ _ _ _ _ _ _ _ _ _ _ _ _ _ _ _ _ _ _ _ _ _ _ _ _ _ _ _ _ _ _ _ _ _ _ _ _ _ _ _ _ _ _ _ _ _ _ _ _ _ _ _ _ _ _ _ _ _ _ _ _ _ _ _ _ _ _ _ _ wr => ∃ (k : Nat) (X : Cs), k ≤ 20 ∧ k ≤ n ∧ s29 = .int .i64 (k : Int) ∧ s7 = .int .i64 (X.s : Int) ∧ Hid (UpI w2.heap.size r w2 wr BS LS X k)) (fun _ _ _ _ _ _ _ _ s29 _ _ _ _ _ _ _ _ _ _ _ _ _ _ _ _ _ _ _ _ _ _ _ _ _ _ _ _ _ _ _ _ _ _ _ _ _ _ _ _ _ _ _ _ _ _ _ _ _ _ _ _ _ _ _ _ _ _ _ _ _ _ _ _ _ _ _ _ _ _ _ _ _ _ _ _ _ _ _ _ _ _ _ _ _ _ _ _ _ _ _ _ _ _ _ _ _ => n - (intOf s29).toNat)
    case atStart => exact ⟨0, ⟨0, [], [], 0⟩, by omega, Nat.zero_le _, rfl, rfl, HU3⟩
    case round =>
      obtain ⟨k, X, hk20, hkn, rfl, rfl, HU⟩ := hrel
      clear HU3
      by_cases hlt : k < n
      · have hlow := below_later G2.out HU.out.low
        have hki : k < ms.length := by have := HN.out; omega
        obtain ⟨a, rfl, ha⟩ : ∃ a, om = some a ∧ ∀ i (h : i < ms.length), wr.cell? (a.add (i * 2)) = some (.int .i64 ms[i].1) ∧ wr.cell? (a.add (i * 2 + 1)) = some (.int .u64 ms[i].2) := by
          rcases HAM.out.later hlow with ⟨_, h0, _⟩ | h
          · rw [h0] at hki; simp at hki
          · exact h
        obtain ⟨e0, e1⟩ := ha k hki
        have hkey := HKM.out ms[k] (List.getElem_mem hki)
        obtain ⟨kd, hkd⟩ : ∃ kd, kd = ms[k].1 := ⟨_, rfl⟩
        obtain ⟨ky, hky⟩ : ∃ ky, ky = ms[k].2 := ⟨_, rfl⟩
        rw [← hkd] at e0
        rw [← hky] at e1 hkey
        rw [← Addr.add_add a (k * 2) 1] at e1
        have e2 : wr.cell? ⟨(a.add (k * 2)).block, (a.add (k * 2)).off + 1, none⟩ = some (.int .u64 ky) := e1
        have HKY := Lib.hid hkey
        have hc1 : (k : Int) < (n : Int) := by omega
        have hk0 : (0 : Int) ≤ (k : Int) := by omega
        have HLT := Lib.hid hlt
        by_cases h20 : k = 20
        · have hc2 : ((k : Int) == 20) = true := by simp [h20]
          have hlow2 := hlow.alloc hlow.size (.cells #[.int .i64 kd, .int .u64 ky] 70)
          clear ha hkey hkd hky hki hk20 hkn hlt e1 HU h20
          go_wp2_with fail
          go_ret
          exact ⟨rfl, hlow2⟩
        have hc2 : ((k : Int) == 20) = false := by simp; omega
        have HKK := Lib.hid (show k < 20 by omega)
        clear hlow ha hkey hkd hky hki hk20 hkn hlt h20 e1
        go_wp2_with fail
        obtain ⟨W1, hW1⟩ : ∃ W1, W1 = wr.alloc (.cells #[.int .i64 kd, .int .u64 ky] 70) := ⟨_, rfl⟩
        have hal : Below wr.heap.size wr W1 := by rw [hW1]; exact (Below.refl _ _).alloc (Nat.le_refl _) _
        have h9 : Blk W1 wr.heap.size #[.int .i64 kd, .int .u64 ky] 70 := by rw [hW1]; exact Blk.new _ _ _
        rw [← hW1]
        have hT9 : wr.heap.size ≠ r := by have := HU.out.cur.lt; omega
        obtain ⟨T9, hT⟩ : ∃ T9, T9 = wr.heap.size := ⟨_, rfl⟩
        rw [← hT] at h9 hT9 ⊢
        have HU1 := Lib.hid (HU.out.later hal)
        have H91 := Lib.hid h9
        clear hW1 hal h9 hT HU e0 e2
        refine (kPath_any HU1.out.cur).mono ?_
        rintro e W2 ⟨v0, rfl, hO, ba⟩
        have HP2 := Lib.hid ((P8.of_owns hO HU1.out.cur.lt))
        have HU2 := Lib.hid (HU1.out.later ba)
        have H92 := Lib.hid (H91.out.later ba)
        clear hO ba HU1 H91
        go_wp2_with fail
        refine (kDepth_any HU2.out.cur).mono ?_
        rintro e W ⟨rfl, rfl⟩
        go_wp2_with fail
        refine (kLeft_any HU2.out.cur).mono ?_
        rintro e W3 ⟨rfl, bb⟩
        have HP3 := Lib.hid (HP2.out.later bb)
        have HU3 := Lib.hid (HU2.out.later bb)
        have H93 := Lib.hid (H92.out.later bb)
        obtain ⟨d0, d1, dl⟩ := H93.out.two
        clear bb HU2 H92 HP2
        go_wp2_with fail
        refine (kmove_any HU3.out.cur (by have := HU3.out.st; have := HKK.out; omega) HUB.out HUL.out kd ky HKY.out.1 HKY.out.2).mono ?_
        by_cases hce : cerr kd X = 0
        · rintro e W4 hM
          obtain ⟨hb4, rfl, q4, hq4, hC4⟩ := mvd_ok hM hce
          obtain ⟨hs1, hs2⟩ := steps_go (bs := BS) (lv := LS) (key := ky) hce HU3.out.cur.rowl hq4
          have hst3 := HU3.out.st
          have hck := HU3.out.cur.cok
          have h1c : kd = 1 → cgo BS LS kd ky q4 X = copen BS LS X := fun h => by rw [h]; rfl
          obtain ⟨X4, hX4⟩ : ∃ X4, X4 = cgo BS LS kd ky q4 X := ⟨_, rfl⟩
          rw [← hX4] at hC4 hs1 hs2 h1c
          have HU4 : Hid (UpI w2.heap.size r w2 W4 BS LS X4 (k + 1)) := Lib.hid (HU3.out.mv hb4 hC4 (by omega))
          have HP4 := Lib.hid (HP3.out.but hb4)
          have h94 := hb4.blk H93.out hT9
          obtain ⟨d0, d1, dl⟩ := h94.two
          have H94 := Lib.hid h94
          have hge : decide (X4.s < X.s) = false := by simp; omega
          have hge2 : (X.s : Int) ≤ (X4.s : Int) := by omega
          have HCK := Lib.hid hck
          have HCE := Lib.hid hce
          have H1C := Lib.hid h1c
          have HS4 := Lib.hid hs2
          have HXS := Lib.hid hst3
          clear hM hb4 hq4 hC4 hs1 hs2 hst3 hck h1c hX4 hce h94 HU3 HP3 H93
          go_wp2_with fail
          refine (kSteps_any HU4.out.cur).mono ?_
          rintro e W5 ⟨rfl, rfl⟩
          go_wp2_with fail
          refine (kSteps_any HU4.out.cur).mono ?_
          rintro e W6 ⟨rfl, rfl⟩
          by_cases hk1 : kd = 1
          · subst hk1
            have hX4 := H1C.out rfl
            obtain ⟨a1, a2, a3, a4, a5, a6, a7, a8, a9⟩ := up_again HCK.out HCE.out
            rw [← hX4] at a1 a2 a3 a4 a5 a6 a7 a8 a9
            have A := Lib.hid (And.intro a1 (And.intro a2 (And.intro a3 (And.intro a4 (And.intro a5 (And.intro a6 (And.intro a7 (And.intro a8 a9))))))))
            clear a1 a2 a3 a4 a5 a6 a7 a8 a9 hX4 H1C
            go_wp2_with fail
            refine (kPath_any HU4.out.cur).mono ?_
            rintro e W7 ⟨v7, rfl, hO, ba⟩
            have HF7 := Lib.hid (P8.of_owns hO HU4.out.cur.lt)
            have HP7 := Lib.hid (HP4.out.later ba)
            have HU7 := Lib.hid (HU4.out.later ba)
            clear hO ba HU4 HP4
            go_wp2_with fail
            refine (kLeft_any HU7.out.cur).mono ?_
            rintro e W8 ⟨rfl, ba⟩
            have HF8 := Lib.hid (HF7.out.later ba)
            have HP8 := Lib.hid (HP7.out.later ba)
            have HU8 := Lib.hid (HU7.out.later ba)
            clear ba HU7 HP7 HF7
            go_wp2_with fail
            refine (kUp_any HU8.out.cur (by have := HU8.out.st; have := HKK.out; omega) HUB.out HUL.out).mono ?_
            rintro e W9 hM
            obtain ⟨hb9, rfl, q9, _, hC9⟩ := mvd_ok hM A.out.1
            have e9 : cgo BS LS 2 0 q9 X4 = cup X4 := rfl
            rw [e9] at hC9
            obtain ⟨U, hU⟩ : ∃ U, U = cup X4 := ⟨_, rfl⟩
            rw [← hU] at hC9 A
            have HU9 : Hid (UpI w2.heap.size r w2 W9 BS LS U (k + 1)) := Lib.hid (HU8.out.mv hb9 hC9 (by have := HU8.out.st; have := A.out.2.2.2.2.2.2.2.1; omega))
            have HP9 := Lib.hid (HP8.out.but hb9)
            have HF9 := Lib.hid (HF8.out.but hb9)
            clear hM hb9 hC9 e9 hU HU8 HP8 HF8
            go_wp2_with fail
            refine (kPath_any HU9.out.cur).mono ?_
            rw [A.out.2.1]
            rintro e Wa ⟨va, rfl, hO, ba⟩
            have HOa := Lib.hid hO.seg
            have HPa := Lib.hid (HP9.out.later ba)
            have HFa := Lib.hid (HF9.out.later ba)
            have HUa := Lib.hid (HU9.out.later ba)
            clear hO ba HU9 HP9 HF9
            go_wp2_with fail
            refine (equalu_same HOa.out HPa.out.1).mono ?_
            rintro e Wb ⟨rfl, ba⟩
            have HFb := Lib.hid (HFa.out.later ba)
            have HUb := Lib.hid (HUa.out.later ba)
            clear ba HUa HPa HFa HOa
            go_wp2_with fail
            refine (kLeft_any HUb.out.cur).mono ?_
            rw [A.out.2.2.1]
            rintro e Wc ⟨rfl, ba⟩
            have HFc := Lib.hid (HFb.out.later ba)
            have HUc := Lib.hid (HUb.out.later ba)
            clear ba HUb HFb
            go_wp2_with fail
            refine (kOpen_any HUc.out.cur (by have := HUc.out.st; have := HKK.out; omega) HUB.out HUL.out).mono ?_
            rintro e Wd hM
            obtain ⟨hbd, rfl, qd, _, hCd⟩ := mvd_ok hM A.out.2.2.2.1
            have e9 : cgo BS LS 1 0 qd U = copen BS LS U := rfl
            rw [e9] at hCd
            obtain ⟨V, hV⟩ : ∃ V, V = copen BS LS U := ⟨_, rfl⟩
            rw [← hV] at hCd A
            have HUd : Hid (UpI w2.heap.size r w2 Wd BS LS V (k + 1)) := Lib.hid (HUc.out.mv hbd hCd (by have := HUc.out.st; have := HS4.out; have := A.out.2.2.2.2.2.2.1; have := A.out.2.2.2.2.2.2.2.2; have := HXS.out; omega))
            have HFd := Lib.hid (HFc.out.but hbd)
            clear hM hbd hCd e9 hV HUc HFc
            go_wp2_with fail
            refine (kPath_any HUd.out.cur).mono ?_
            rw [A.out.2.2.2.2.1]
            rintro e We ⟨ve, rfl, hO, ba⟩
            have HOe := Lib.hid hO.seg
            have HFe := Lib.hid (HFd.out.later ba)
            have HUe := Lib.hid (HUd.out.later ba)
            clear hO ba HUd HFd
            go_wp2_with fail
            refine (equalu_same HOe.out HFe.out.1).mono ?_
            rintro e Wf ⟨rfl, ba⟩
            have HUf := Lib.hid (HUe.out.later ba)
            clear ba HUe HFe HOe
            go_wp2_with fail
            refine (kLeft_any HUf.out.cur).mono ?_
            rw [A.out.2.2.2.2.2.1]
            rintro e Wg ⟨rfl, ba⟩
            have HUg := Lib.hid (HUf.out.later ba)
            clear ba HUf
            go_wp2_with fail
            refine (kSteps_any HUg.out.cur).mono ?_
            rintro e Wh ⟨rfl, rfl⟩
            have hsv : (V.s : Int) = (X4.s : Int) + 1 := by have := A.out.2.2.2.2.2.2.1; omega
            have hs20 : X4.s ≤ 10000 := by have := HUg.out.st; have := A.out.2.2.2.2.2.2.1; have := HKK.out; omega
            have hwr : IntKind.i64.wrap ((X4.s : Int) + 1) = (X4.s : Int) + 1 := by rw [IntKind.wrap_i64]; omega
            go_wp2_with fail
            go_roundw
            · have := HKK.out
              have := HLT.out
              exact ⟨k + 1, V, by omega, by omega, by simp, by rw [hsv], HUg⟩
            · have := HLT.out
              simp [intOf]
              omega
          · have hk1' : (kd == 1) = false := by simpa using hk1
            clear hk1
            go_wp2_with fail
            go_roundw
            · have := HKK.out
              have := HLT.out
              exact ⟨k + 1, X4, by omega, by omega, by simp, rfl, HU4⟩
            · have := HLT.out
              simp [intOf]
              omega
        · rintro e W4 ⟨hb4, rfl, ⟨h1, _⟩ | ⟨_, hC4⟩⟩
          · exact absurd h1 hce
          have HU4 : Hid (UpI w2.heap.size r w2 W4 BS LS X (k + 1)) := Lib.hid (HU3.out.mv hb4 hC4 (by have := HU3.out.st; omega))
          have HP4 := Lib.hid (HP3.out.but hb4)
          obtain ⟨E, hE⟩ : ∃ E, E = cerr kd X := ⟨_, rfl⟩
          rw [← hE] at hce ⊢
          have hE0 : (E == 0) = false := by simpa using hce
          clear hb4 hC4 hE hce HU3 HP3 H93 d0 d1 dl
          go_wp2_with fail
          refine (kPath_any HU4.out.cur).mono ?_
          rintro e W5 ⟨v5, rfl, hO, ba⟩
          have HP5 := Lib.hid (HP4.out.later ba)
          have HO5 := Lib.hid hO.seg
          have HU5 := Lib.hid (HU4.out.later ba)
          clear hO ba HU4 HP4
          go_wp2_with fail
          refine (equalu_same HO5.out HP5.out.1).mono ?_
          rintro e W6 ⟨rfl, bb⟩
          have HU6 := Lib.hid (HU5.out.later bb)
          clear bb HU5 HP5 HO5
          go_wp2_with fail
          refine (kDepth_any HU6.out.cur).mono ?_
          rintro e W7 ⟨rfl, rfl⟩
          go_wp2_with fail
          refine (kLeft_any HU6.out.cur).mono ?_
          rintro e W8 ⟨rfl, bc⟩
          have HU8 := Lib.hid (HU6.out.later bc)
          clear bc HU6
          go_wp2_with fail
          refine (kSteps_any HU8.out.cur).mono ?_
          rintro e W9 ⟨rfl, rfl⟩
          go_wp2_with fail
          go_roundw
          · have := HKK.out
            have := HLT.out
            exact ⟨k + 1, X, by omega, by omega, by simp, rfl, HU8⟩
          · have := HLT.out
            simp [intOf]
            omega
      · have hc : decide ((k : Int) < (n : Int)) = false := by simp; omega
        have hlow := below_later G2.out HU.out.low
        clear HU
        go_wp2_with fail
        go_ret
        exact ⟨rfl, hlow⟩
  · rintro e w3 ⟨b3, hN⟩
    rw [if_neg hok] at hN
    subst hN
    have g3 := g2.trans (b3.mono g2.size)
    clear b3 hok g2
    go_wp2_with fail
    go_ret
    exact ⟨rfl, g3⟩
end Go.Proofs.Ytjfnhjmdgfkgnaa

