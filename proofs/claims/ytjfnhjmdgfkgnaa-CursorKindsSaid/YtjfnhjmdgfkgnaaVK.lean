/- CursorKinds: moves by their names are moves by their kinds, and no cursor answers ErrNil: for all tries and all rows of moves the law returns true. No condition. -/
import Derived.Test.YtjfnhjmdgfkgnaaVC
import Derived.Test.YtjfnhjmdgfkgnaaV16
import Derived.Deep.CutBlock
import Derived.Test.YtjfnhjmdgfkgnaaVE
/- What no cursor answers. -/
namespace Go.Proofs.Ytjfnhjmdgfkgnaa
open Go.RowKit Go.Proofs.Kit Go.Shelf
set_option maxRecDepth 100000 in
set_option maxHeartbeats 1000000 in
theorem kMove_nil (k key : Int) (w : World) : Calls Try.prog 38 #[.pointer none, .agg #[.int .i64 k, .int .u64 key]] w fun e w' => e = .returned (.int .i64 1) ∧ Below w.heap.size w w' := by
  go_enter Try.func38, Try.ntmps38
  go_wp2_with fail
  go_ret
  exact ⟨rfl, (Gr.alloc _ _).below⟩
set_option maxRecDepth 100000 in
set_option maxHeartbeats 1000000 in
theorem kOpen_nil (w : World) : Calls Try.prog 40 #[.pointer none] w fun e w' => e = .returned (.int .i64 1) ∧ Below w.heap.size w w' := by
  go_enter Try.func40, Try.ntmps40
  go_wp2_with fail
  refine (kMove_nil _ _ _).mono ?_
  rintro e w1 ⟨rfl, l1⟩
  go_wp2_with fail
  go_ret
  exact ⟨rfl, l1⟩
set_option maxRecDepth 100000 in
set_option maxHeartbeats 1000000 in
theorem kUp_nil (w : World) : Calls Try.prog 41 #[.pointer none] w fun e w' => e = .returned (.int .i64 1) ∧ Below w.heap.size w w' := by
  go_enter Try.func41, Try.ntmps41
  go_wp2_with fail
  refine (kMove_nil _ _ _).mono ?_
  rintro e w1 ⟨rfl, l1⟩
  go_wp2_with fail
  go_ret
  exact ⟨rfl, l1⟩
set_option maxRecDepth 100000 in
set_option maxHeartbeats 1000000 in
theorem kNext_nil (w : World) : Calls Try.prog 42 #[.pointer none] w fun e w' => e = .returned (.int .i64 1) ∧ Below w.heap.size w w' := by
  go_enter Try.func42, Try.ntmps42
  go_wp2_with fail
  refine (kMove_nil _ _ _).mono ?_
  rintro e w1 ⟨rfl, l1⟩
  go_wp2_with fail
  go_ret
  exact ⟨rfl, l1⟩
set_option maxRecDepth 100000 in
set_option maxHeartbeats 1000000 in
theorem kDepth_nil (w : World) : Calls Try.prog 44 #[.pointer none] w fun e w' => e = .returned (.int .i64 0) ∧ Below w.heap.size w w' := by
  go_enter Try.func44, Try.ntmps44
  go_wp2_with fail
  go_ret
  exact ⟨rfl, Below.refl _ _⟩
set_option maxRecDepth 100000 in
set_option maxHeartbeats 1000000 in
theorem kLeft_nil (w : World) : Calls Try.prog 45 #[.pointer none] w fun e w' => e = .returned (.int .i64 0) ∧ Below w.heap.size w w' := by
  go_enter Try.func45, Try.ntmps45
  go_wp2_with fail
  go_ret
  exact ⟨rfl, Below.refl _ _⟩
set_option maxRecDepth 100000 in
set_option maxHeartbeats 1000000 in
theorem kSteps_nil (w : World) : Calls Try.prog 37 #[.pointer none] w fun e w' => e = .returned (.int .i64 0) ∧ Below w.heap.size w w' := by
  go_enter Try.func37, Try.ntmps37
  go_wp2_with fail
  go_ret
  exact ⟨rfl, Below.refl _ _⟩
set_option maxRecDepth 100000 in
set_option maxHeartbeats 1000000 in
theorem kSeek_nil (key : Int) (w : World) : Calls Try.prog 43 #[.pointer none, .int .u64 key] w fun e w' => e = .returned (.int .i64 1) ∧ Below w.heap.size w w' := by
  go_enter Try.func43, Try.ntmps43
  go_wp2_with fail
  refine (kMove_nil _ _ _).mono ?_
  rintro e w1 ⟨rfl, l1⟩
  go_wp2_with fail
  go_ret
  exact ⟨rfl, l1⟩
set_option maxRecDepth 100000 in
set_option maxHeartbeats 1000000 in
theorem kKey_nil (w : World) : Calls Try.prog 46 #[.pointer none] w fun e w' => e = .returned (.tuple #[.int .u64 0, .bool false]) ∧ Below w.heap.size w w' := by
  go_enter Try.func46, Try.ntmps46
  go_wp2_with fail
  go_ret2
  exact ⟨rfl, Below.refl _ _⟩
set_option maxRecDepth 100000 in
set_option maxHeartbeats 1000000 in
theorem kPath_nil (w : World) : Calls Try.prog 39 #[.pointer none] w fun e w' => e = .returned (.slice none 0 0) ∧ Below w.heap.size w w' := by
  go_enter Try.func39, Try.ntmps39
  go_wp2_with fail
  go_ret
  exact ⟨rfl, Below.refl _ _⟩
end Go.Proofs.Ytjfnhjmdgfkgnaa


/- CursorKinds: its walk. -/
namespace Go.Proofs.Ytjfnhjmdgfkgnaa
open Go.RowKit Go.Proofs.Kit Go.Shelf
theorem own_ofK {o : Option Addr} {n c b : Nat} (h : (Value.slice o n c).ownBlock = some b) : ∃ a, o = some a ∧ a.block = b := by
  cases o with
  | none => simp [Value.ownBlock] at h
  | some a => exact ⟨a, rfl, by simpa [Value.ownBlock] using h⟩
theorem But.segRK {r : Nat} {w w' : World} {o : Option Addr} {n c : Nat} {l : List Br} (h : But r w w') (hs : SegR w (.slice o n c) l) (hr : ∀ a, o = some a → a.block ≠ r) : SegR w' (.slice o n c) l := by
  refine ⟨hs.1, hs.2.imp id ?_⟩
  rintro ⟨b, f, cap, e, h1, h2, h3, h4⟩
  have hB : b ≠ r := by injection e with e _ _; exact hr _ e
  have hc : ∀ i, w'.cell? ⟨b, i, none⟩ = w.cell? ⟨b, i, none⟩ := fun i => World.cell?_of_block (w := w) (h.same b hB h3)
  exact ⟨b, f, cap, e, h1, h2, Nat.lt_of_lt_of_le h3 h.size, fun i hi => ⟨(hc _).trans (h4 i hi).1, (hc _).trans (h4 i hi).2.1, (hc _).trans (h4 i hi).2.2⟩⟩
theorem Cur.butK {lo r r' : Nat} {w w' : World} {bs : List Br} {lv : List Int} {X : Cs} (h : Cur lo r w bs lv X) (hb : But r' w w') (hne : r ≠ r') (hn : r' < lo ∨ r ≤ r') : Cur lo r w' bs lv X := by
  obtain ⟨ob, m, cb, ol, q, cl, ok, nk, ck, o0, n0, c0, o1, n1, c1, hk, h⟩ := h
  have hi : ∀ {o : Option Addr}, In8 lo r o → ∀ a, o = some a → a.block ≠ r' := fun hI a ha => by
    have := hI a ha
    omega
  have hv : ∀ {o : Option Addr} {n c : Nat}, In8 lo r o → ∀ b, (Value.slice o n c).ownBlock = some b → b ≠ r' := fun hI b hb => by
    obtain ⟨a, ha, rfl⟩ := own_ofK hb
    exact hi hI a ha
  exact ⟨ob, m, cb, ol, q, cl, ok, nk, ck, o0, n0, c0, o1, n1, c1, hb.blk hk hne,
    { h with sB := But.segRK hb h.sB (hi h.iB), sL := hb.seg h.sL (hv h.iL), sK := hb.seg h.sK (hv h.iK), s0 := hb.seg h.s0 (hv h.i0), s1 := hb.seg h.s1 (hv h.i1) }⟩
/-- What a move makes of where a cursor stands. -/
def MvK (bs : List Br) (lv : List Int) (k key : Int) (X Y : Cs) : Prop := (cerr k X = 0 ∧ ∃ q, Lk8 k key X q ∧ Y = cgo bs lv k key q X) ∨ (cerr k X ≠ 0 ∧ Y = X)
theorem MvK.uniq {bs : List Br} {lv : List Int} {k key key' : Int} {X Y Z : Cs} (h : MvK bs lv k key X Y) (h' : MvK bs lv k key' X Z) (hk : k = 4 → key = key') : Y = Z := by
  rcases h with ⟨h1, q, h2, rfl⟩ | ⟨h1, rfl⟩ <;> rcases h' with ⟨g1, q', g2, rfl⟩ | ⟨g1, rfl⟩
  · by_cases h4 : k = 4
    · have e := hk h4
      subst e
      have e2 := (h2 h4).2.uniq (g2 h4).2
      rw [e2]
    · have hk4 : ¬ (k < 1 ∨ 4 < k) := fun e => by unfold cerr at h1; rw [if_pos e] at h1; cases h1
      rcases (show k = 1 ∨ k = 2 ∨ k = 3 by omega) with rfl | rfl | rfl <;> simp [cgo]
  · exact absurd h1 g1
  · exact absurd g1 h1
  · rfl
theorem MvK.other {bs : List Br} {lv : List Int} {k key : Int} {X : Cs} (h : k < 1 ∨ 4 < k) : MvK bs lv k key X X ∧ cerr k X = 180 := by
  have e : cerr k X = 180 := if_pos h
  exact ⟨.inr ⟨by rw [e]; decide, rfl⟩, e⟩
theorem MvK.steps {bs : List Br} {lv : List Int} {k key : Int} {X Y : Cs} (h : MvK bs lv k key X Y) (hl : X.row.length ≤ 100000) : Y.s ≤ X.s + 200 := by
  rcases h with ⟨h1, q, h2, rfl⟩ | ⟨_, rfl⟩
  · exact (steps_go h1 hl h2).2
  · omega
theorem mvd_is {lo r : Nat} {bs : List Br} {lv : List Int} {k key : Int} {X : Cs} {w : World} {e : Ending} {w' : World} (h : Mvd lo r bs lv k key X w e w') : But r w w' ∧ e = .returned (.int .i64 (cerr k X)) ∧ ∃ Y, MvK bs lv k key X Y ∧ Cur lo r w' bs lv Y := by
  obtain ⟨h1, h2, ⟨h3, q, h4, h5⟩ | ⟨h3, h5⟩⟩ := h
  · exact ⟨h1, h2, _, .inl ⟨h3, q, h4, rfl⟩, h5⟩
  · exact ⟨h1, h2, _, .inr ⟨h3, rfl⟩, h5⟩
theorem newd_is {lo : Nat} {bs : List Br} {lv : List Int} {w : World} {e : Ending} {w' : World} (h : Newd lo bs lv w e w') : ∃ pa, e = .returned (.tuple #[pa, .int .i64 (if ok7 bs lv then 0 else 170)]) ∧ Below w.heap.size w w' ∧
    ((ok7 bs lv ∧ ∃ r, pa = .pointer (some ⟨r, 0, none⟩) ∧ lo ≤ r ∧ Cur lo r w' bs lv ⟨0, [], [], 0⟩) ∨ (¬ ok7 bs lv ∧ pa = .pointer none)) := by
  obtain ⟨h1, h2⟩ := h
  by_cases hok : ok7 bs lv
  · rw [if_pos hok] at h2
    obtain ⟨r, rfl, h3, h4⟩ := h2
    exact ⟨_, by rw [if_pos hok], h1, .inl ⟨hok, r, rfl, h3, h4⟩⟩
  · rw [if_neg hok] at h2
    exact ⟨_, by rw [if_neg hok]; exact h2, h1, .inr ⟨hok, rfl⟩⟩
/-- Two cursors of one trie that stand alike. -/
structure Kk (lo lo2 ra rb : Nat) (w0 : World) (bs : List Br) (lv : List Int) (X : Cs) (W : World) : Prop where
  ca : Cur lo ra W bs lv X
  cb : Cur lo2 rb W bs lv X
  low : Below w0.heap.size w0 W
theorem Kk.later {lo lo2 ra rb : Nat} {w0 W W' : World} {bs : List Br} {lv : List Int} {X : Cs} (h : Kk lo lo2 ra rb w0 bs lv X W) (g : Below W.heap.size W W') : Kk lo lo2 ra rb w0 bs lv X W' := ⟨h.ca.later g, h.cb.later g, below_later h.low g⟩
end Go.Proofs.Ytjfnhjmdgfkgnaa


/- CursorKinds: its walk. -/
namespace Go.Proofs.Ytjfnhjmdgfkgnaa
open Go.RowKit Go.Proofs.Kit Go.Shelf
set_option maxRecDepth 100000 in
set_option maxHeartbeats 16000000 in
theorem kinds_true (ob : Option Addr) (m cb : Nat) (ol : Option Addr) (q cl : Nat) (bs : List Br) (lv : List Int) (om : Option Addr) (n cm : Nat) (ms : List Mv) (w : World)
    (hm : bs.length = m) (hmc : m ≤ cb) (hcb : cb ≤ 9223372036854775807) (ab : ArgR w ob cb bs) (hq : lv.length = q) (hqc : q ≤ cl) (hcl : cl ≤ 9223372036854775807) (al : ArgI .u64 w ol cl lv) (hu : U64s (keysB bs)) (hl : U64s lv)
    (hn : ms.length = n) (hnc : n ≤ cm) (hcm : cm ≤ 9223372036854775807) (am : ArgM w om cm ms) (hk : ∀ x ∈ ms, 0 ≤ x.2 ∧ x.2 < 18446744073709551616) :
    Calls Try.prog 7 #[.agg #[.slice ob m cb, .slice ol q cl], .slice om n cm] w fun e w' => e = .returned (.bool true) ∧ Below w.heap.size w w' := by
  have HOWN := Lib.hid (fun W (g : Below w.heap.size w W) => own8_any ob m cb ol q cl bs lv W hm hmc hcb (ab.later g) hq hqc hcl (al.later g))
  have hub : U64s (keysB (bs.take 40)) := fun x hx => hu x (by unfold keysB at hx ⊢; rw [List.map_take] at hx; exact List.mem_of_mem_take hx)
  have hul : U64s (lv.take 80) := fun x hx => hl x (List.mem_of_mem_take hx)
  have hb40 : (bs.take 40).length ≤ 40 := by simp; omega
  have hl80 : (lv.take 80).length ≤ 80 := by simp; omega
  obtain ⟨BS, hBS⟩ : ∃ BS, BS = bs.take 40 := ⟨_, rfl⟩
  obtain ⟨LS, hLS⟩ : ∃ LS, LS = lv.take 80 := ⟨_, rfl⟩
  rw [← hBS] at hub hb40 HOWN
  rw [← hLS] at hul hl80 HOWN
  have HUB := Lib.hid hub
  have HUL := Lib.hid hul
  have HB40 := Lib.hid hb40
  have HL80 := Lib.hid hl80
  have HN := Lib.hid hn
  have HAM := Lib.hid am
  have HKM := Lib.hid hk
  have hn63 : n ≤ 9223372036854775807 := by omega
  clear hm hmc hcb ab hq hqc hcl al hu hl hub hul hb40 hl80 hBS hLS hn am hk hnc hcm
  go_enter Try.func7, Try.ntmps7
  go_wp2_with fail
  refine (wakes8_true _).mono ?_
  rintro e w1 ⟨rfl, l1⟩
  have K1 := Lib.hid ((Blk.new w #[.slice ob m cb, .slice ol q cl] 25).later l1)
  have LO1 := Lib.hid (below_later (Gr.alloc w (.cells #[.slice ob m cb, .slice ol q cl] 25)).below l1)
  obtain ⟨c0, c1, lc⟩ := K1.out.two
  clear l1
  go_wp2_with fail
  refine (HOWN.out _ LO1.out).mono ?_
  rintro e w2 ⟨o1, m1, y1, o2, q2, y2, rfl, hOB, hOL, l2⟩
  have K1 := Lib.hid (K1.out.later l2)
  have LO := Lib.hid (below_later LO1.out l2)
  have hm1 := segR_lenV hOB.seg
  have hq1 := segU_len hOL.seg
  have hnew := cnew_any o1 m1 y1 o2 q2 y2 BS LS w2 hOB.seg hOL.seg hm1 hq1 (by have := HB40.out; omega) (by have := HL80.out; omega)
  have HNEW := Lib.hid hnew
  clear l2 c0 c1 lc LO1 hOB hOL hm1 hq1 hnew
  go_wp2_with fail
  refine HNEW.out.mono ?_
  rintro e w3 hN
  obtain ⟨pa, rfl, l3, hA⟩ := newd_is hN
  obtain ⟨lo, hlo⟩ : ∃ lo, lo = w2.heap.size := ⟨_, rfl⟩
  rw [← hlo] at hA
  have HLO := Lib.hid (show w.heap.size ≤ lo from by rw [hlo]; exact LO.out.size)
  have HA := Lib.hid hA
  have K1 := Lib.hid (K1.out.later l3)
  have LO := Lib.hid (below_later LO.out l3)
  obtain ⟨EE, hEE⟩ : ∃ EE : Int, EE = (if ok7 BS LS then 0 else 170) := ⟨_, rfl⟩
  rw [← hEE]
  have HEE := Lib.hid hEE
  clear l3 hN hA hlo HNEW hEE
  obtain ⟨c0, c1, lc⟩ := K1.out.two
  go_wp2_with fail
  refine (HOWN.out _ LO.out).mono ?_
  rintro e w4 ⟨o3, m3, y3, o4, q4, y4, rfl, hOB, hOL, l4⟩
  have LO := Lib.hid (below_later LO.out l4)
  have HL4 := Lib.hid l4
  have hm1 := segR_lenV hOB.seg
  have hq1 := segU_len hOL.seg
  have hnew := cnew_any o3 m3 y3 o4 q4 y4 BS LS w4 hOB.seg hOL.seg hm1 hq1 (by have := HB40.out; omega) (by have := HL80.out; omega)
  have HNEW := Lib.hid hnew
  clear l4 c0 c1 lc K1 hOB hOL hm1 hq1 hnew
  go_wp2_with fail
  refine HNEW.out.mono ?_
  rintro e w5 hN
  obtain ⟨pb, rfl, l5, hB⟩ := newd_is hN
  rw [← HEE.out]
  obtain ⟨lo2, hlo2⟩ : ∃ lo2, lo2 = w4.heap.size := ⟨_, rfl⟩
  rw [← hlo2] at hB
  have LO := Lib.hid (below_later LO.out l5)
  have HD := Lib.hid (show (∃ ra rb, pa = .pointer (some ⟨ra, 0, none⟩) ∧ pb = .pointer (some ⟨rb, 0, none⟩) ∧ w.heap.size ≤ lo ∧ lo ≤ ra ∧ ra < lo2 ∧ lo2 ≤ rb ∧ Kk lo lo2 ra rb w BS LS ⟨0, [], [], 0⟩ w5) ∨ (pa = .pointer none ∧ pb = .pointer none) from by
    rcases HA.out with ⟨hok, ra, rfl, h1, h2⟩ | ⟨hok, rfl⟩ <;> rcases hB with ⟨hok', rb, rfl, h3, h4⟩ | ⟨hok', rfl⟩
    · have h5 := h2.later HL4.out
      exact .inl ⟨ra, rb, rfl, rfl, HLO.out, h1, by rw [hlo2]; exact h5.lt, h3, h5.later l5, h4, LO.out⟩
    · exact absurd hok hok'
    · exact absurd hok' hok
    · exact .inr ⟨rfl, rfl⟩)
  clear l5 hN hB hlo2 HNEW HA HL4 HLO HEE HOWN
  go_upto_region 7 with fail
  obtain ⟨w6, hw6⟩ : ∃ w6, w6 = w5 := ⟨_, rfl⟩
  rw [← hw6] at LO HD ⊢
  clear hw6
  go_upto_block 0 with fail
  go_cut [34] (fun _ wx => Hid (Below w.heap.size w wx))
  case first =>
    rcases HD.out with ⟨ra, rb, rfl, rfl, h0, h1, h2, h3, hK⟩ | ⟨rfl, rfl⟩
    · have HRR := Lib.hid (And.intro h0 (And.intro h1 (And.intro h2 h3)))
      have HKK := Lib.hid hK
      clear h0 h1 h2 h3 hK HD LO
      go_wp2
      go_loopw [34] (fun i wz => ∃ (k : Nat) (X : Cs), k ≤ n ∧ k ≤ 20 ∧ i = .int .i64 (k : Int) ∧ Hid (X.s ≤ 400 * k) ∧ Hid (Kk lo lo2 ra rb w BS LS X wz)) (fun i _ => n - (intOf i).toNat)
      case atStart => exact ⟨0, ⟨0, [], [], 0⟩, Nat.zero_le _, Nat.zero_le _, rfl, Lib.hid (Nat.le_refl _), HKK⟩
      case round =>
        obtain ⟨k, X, hkn, hk20, rfl, HXS, HK⟩ := hrel
        clear HKK
        by_cases hlt : k < n
        · have hlow := HK.out.low
          have hki : k < ms.length := by have := HN.out; omega
          obtain ⟨a, rfl, ha⟩ : ∃ a, om = some a ∧ ∀ i (h : i < ms.length), wr.cell? (a.add (i * 2)) = some (.int .i64 ms[i].1) ∧ wr.cell? (a.add (i * 2 + 1)) = some (.int .u64 ms[i].2) := by
            rcases HAM.out.later hlow with ⟨_, h0, _⟩ | h
            · rw [h0] at hki; simp at hki
            · exact h
          obtain ⟨e0, e1⟩ := ha k hki
          have hkey := HKM.out ms[k] (List.getElem_mem hki)
          obtain ⟨kd, hkd⟩ : ∃ kd, kd = ms[k].1 := ⟨_, rfl⟩
          obtain ⟨ky, hky⟩ : ∃ ky, ky = ms[k].2 := ⟨_, rfl⟩
          rw [← hkd] at e0
          rw [← hky] at e1 hkey
          rw [← Addr.add_add a (k * 2) 1] at e1
          have e2 : wr.cell? ⟨(a.add (k * 2)).block, (a.add (k * 2)).off + 1, none⟩ = some (.int .u64 ky) := e1
          have HKY := Lib.hid hkey
          have hc1 : (k : Int) < (n : Int) := by omega
          have hk0 : (0 : Int) ≤ (k : Int) := by omega
          have HLT := Lib.hid hlt
          clear ha hkey hkd hky hki hlt e1 hlow
          by_cases h20 : k = 20
          · have hc2 : ((k : Int) == 20) = true := by simp [h20]
            have HGA := Lib.hid (HK.out.later (Gr.alloc wr (.cells #[.int .i64 kd, .int .u64 ky] 70)).below)
            clear h20
            go_wp2_with fail
            go_meet
            exact Lib.hid HGA.out.low
          have hc2 : ((k : Int) == 20) = false := by simp; omega
          have HK20 := Lib.hid (show k < 20 by omega)
          clear h20 hk20
          go_upto_region 11 with fail
          obtain ⟨W1, hW1⟩ : ∃ W1, W1 = wr.alloc (.cells #[.int .i64 kd, .int .u64 ky] 70) := ⟨_, rfl⟩
          obtain ⟨TM, hTM⟩ : ∃ TM, TM = wr.heap.size := ⟨_, rfl⟩
          have hal : Below wr.heap.size wr W1 := by rw [hW1]; exact (Gr.alloc _ _).below
          have KM := Lib.hid (show Blk W1 TM #[.int .i64 kd, .int .u64 ky] 70 from by rw [hW1, hTM]; exact Blk.new _ _ _)
          have HTM := Lib.hid (show ra < TM ∧ rb < TM from ⟨by rw [hTM]; exact HK.out.ca.lt, by rw [hTM]; exact HK.out.cb.lt⟩)
          rw [← hW1, ← hTM]
          have HK := Lib.hid (HK.out.later hal)
          clear hW1 hTM hal e0 e2
          obtain ⟨f0, f1, fl⟩ := KM.out.two
          obtain ⟨cc, hcc⟩ : ∃ cc, cc = cerr kd X := ⟨_, rfl⟩
          have HCC := Lib.hid hcc
          clear hcc
          go_upto_block 2 with fail
          go_cut [11] from 51 to 68 (fun s11 wx => ∃ (X2 : Cs) (key2 : Int), s11 = .int .i64 cc ∧ Hid (MvK BS LS kd key2 X X2 ∧ (kd = 4 → ky = key2)) ∧ Hid (Cur lo2 rb wx BS LS X2) ∧ Hid (Cur lo ra wx BS LS X) ∧ Hid (Below w.heap.size w wx) ∧ Hid (Blk wx TM #[.int .i64 kd, .int .u64 ky] 70))
          case first =>
            by_cases h1 : kd = 1
            · subst h1
              have hb := (kOpen_any HK.out.cb (by have := HXS.out; have := HK20.out; omega) HUB.out HUL.out)
              have HBB := Lib.hid hb
              clear hb
              go_wp2_with fail
              refine HBB.out.mono ?_
              rintro e w2 hM
              obtain ⟨hBt, rfl, X2, hY, hC⟩ := mvd_is hM
              have r1 := HK.out.ca.butK hBt (by have := HRR.out; omega) (.inr (by have := HRR.out; omega))
              have r2 := HK.out.low.trans (hBt.below (by have := HRR.out; omega) HK.out.low.size)
              have r3 := hBt.blk KM.out (by have := HTM.out; omega)
              have R0 := Lib.hid (And.intro hY (And.intro hC (And.intro r1 (And.intro r2 r3))))
              rw [← HCC.out]
              clear hM hBt hY hC r1 r2 r3
              go_wp2_with fail
              go_meet
              exact ⟨X2, 0, rfl, Lib.hid ⟨R0.out.1, fun h => absurd h (by decide)⟩, Lib.hid R0.out.2.1, Lib.hid R0.out.2.2.1, Lib.hid R0.out.2.2.2.1, Lib.hid R0.out.2.2.2.2⟩
            by_cases h2 : kd = 2
            · subst h2
              have hb := (kUp_any HK.out.cb (by have := HXS.out; have := HK20.out; omega) HUB.out HUL.out)
              have HBB := Lib.hid hb
              clear hb
              go_wp2_with fail
              refine HBB.out.mono ?_
              rintro e w2 hM
              obtain ⟨hBt, rfl, X2, hY, hC⟩ := mvd_is hM
              have r1 := HK.out.ca.butK hBt (by have := HRR.out; omega) (.inr (by have := HRR.out; omega))
              have r2 := HK.out.low.trans (hBt.below (by have := HRR.out; omega) HK.out.low.size)
              have r3 := hBt.blk KM.out (by have := HTM.out; omega)
              have R0 := Lib.hid (And.intro hY (And.intro hC (And.intro r1 (And.intro r2 r3))))
              rw [← HCC.out]
              clear hM hBt hY hC r1 r2 r3
              go_wp2_with fail
              go_meet
              exact ⟨X2, 0, rfl, Lib.hid ⟨R0.out.1, fun h => absurd h (by decide)⟩, Lib.hid R0.out.2.1, Lib.hid R0.out.2.2.1, Lib.hid R0.out.2.2.2.1, Lib.hid R0.out.2.2.2.2⟩
            by_cases h3 : kd = 3
            · subst h3
              have hb := (kNext_any HK.out.cb (by have := HXS.out; have := HK20.out; omega) HUB.out HUL.out)
              have HBB := Lib.hid hb
              clear hb
              go_wp2_with fail
              refine HBB.out.mono ?_
              rintro e w2 hM
              obtain ⟨hBt, rfl, X2, hY, hC⟩ := mvd_is hM
              have r1 := HK.out.ca.butK hBt (by have := HRR.out; omega) (.inr (by have := HRR.out; omega))
              have r2 := HK.out.low.trans (hBt.below (by have := HRR.out; omega) HK.out.low.size)
              have r3 := hBt.blk KM.out (by have := HTM.out; omega)
              have R0 := Lib.hid (And.intro hY (And.intro hC (And.intro r1 (And.intro r2 r3))))
              rw [← HCC.out]
              clear hM hBt hY hC r1 r2 r3
              go_wp2_with fail
              go_meet
              exact ⟨X2, 0, rfl, Lib.hid ⟨R0.out.1, fun h => absurd h (by decide)⟩, Lib.hid R0.out.2.1, Lib.hid R0.out.2.2.1, Lib.hid R0.out.2.2.2.1, Lib.hid R0.out.2.2.2.2⟩
            by_cases h4 : kd = 4
            · subst h4
              have hb := (kSeek_any HK.out.cb (by have := HXS.out; have := HK20.out; omega) HUB.out HUL.out ky HKY.out.1 HKY.out.2)
              have HBB := Lib.hid hb
              clear hb
              go_wp2_with fail
              refine HBB.out.mono ?_
              rintro e w2 hM
              obtain ⟨hBt, rfl, X2, hY, hC⟩ := mvd_is hM
              have r1 := HK.out.ca.butK hBt (by have := HRR.out; omega) (.inr (by have := HRR.out; omega))
              have r2 := HK.out.low.trans (hBt.below (by have := HRR.out; omega) HK.out.low.size)
              have r3 := hBt.blk KM.out (by have := HTM.out; omega)
              have R0 := Lib.hid (And.intro hY (And.intro hC (And.intro r1 (And.intro r2 r3))))
              rw [← HCC.out]
              clear hM hBt hY hC r1 r2 r3
              go_wp2_with fail
              go_meet
              exact ⟨X2, ky, rfl, Lib.hid ⟨R0.out.1, fun _ => rfl⟩, Lib.hid R0.out.2.1, Lib.hid R0.out.2.2.1, Lib.hid R0.out.2.2.2.1, Lib.hid R0.out.2.2.2.2⟩
            have t1 : (kd == 1) = false := by simpa using h1
            have t2 : (kd == 2) = false := by simpa using h2
            have t3 : (kd == 3) = false := by simpa using h3
            have t4 : (kd == 4) = false := by simpa using h4
            have HO := Lib.hid (MvK.other (bs := BS) (lv := LS) (k := kd) (key := ky) (X := X) (by omega))
            have HC0 := Lib.hid (show cc = 180 from by rw [HCC.out]; exact HO.out.2)
            clear h1 h2 h3 h4
            go_wp2_with fail
            go_meet
            exact ⟨X, ky, by rw [HC0.out], Lib.hid ⟨HO.out.1, fun _ => rfl⟩, Lib.hid HK.out.cb, Lib.hid HK.out.ca, Lib.hid HK.out.low, KM⟩
          case rest =>
            obtain ⟨X2, key2, rfl, HMK, HCB, HCA, HLW, KM⟩ := hcut
            obtain ⟨w3, hw3⟩ : ∃ w3, w3 = wc := ⟨_, rfl⟩
            rw [← hw3] at HCB HCA HLW KM ⊢
            clear hw3 HK f0 f1 fl
            obtain ⟨f0, f1, fl⟩ := KM.out.two
            have hma := kmove_any HCA.out (by have := HXS.out; have := HK20.out; omega) HUB.out HUL.out kd ky HKY.out.1 HKY.out.2
            have HMA := Lib.hid hma
            clear hma
            go_wp2_with fail
            refine HMA.out.mono ?_
            rintro e w4 hM
            obtain ⟨hBt, rfl, X3, hY, hC⟩ := mvd_is hM
            have e3 : X3 = X2 := hY.uniq HMK.out.1 HMK.out.2
            subst e3
            have hrl := HCA.out.rowl
            have hst := hY.steps hrl
            have r2 := HCB.out.butK hBt (by have := HRR.out; omega) (.inl (by have := HRR.out; omega))
            have r3 := HLW.out.trans (hBt.below (by have := HRR.out; omega) HLW.out.size)
            have HK := Lib.hid (show Kk lo lo2 ra rb w BS LS X3 w4 from ⟨hC, r2, r3⟩)
            have HXS3 := Lib.hid (show X3.s ≤ 400 * (k + 1) from by have := HXS.out; omega)
            rw [← HCC.out]
            clear hM hBt hY hC hrl hst r2 r3 HCB HCA HLW KM f0 f1 fl HMA HMK
            go_wp2_with fail
            refine (kSteps_any HK.out.ca).mono ?_
            rintro e w5' ⟨rfl, rfl⟩
            go_wp2_with fail
            refine (kSteps_any HK.out.cb).mono ?_
            rintro e w6' ⟨rfl, rfl⟩
            go_wp2_with fail
            refine (kPath_any HK.out.ca).mono ?_
            rintro e w7 ⟨vA, rfl, hA, l7⟩
            have HK := Lib.hid (HK.out.later l7)
            have HPA := Lib.hid hA
            clear hA l7
            go_wp2_with fail
            refine (kPath_any HK.out.cb).mono ?_
            rintro e w8 ⟨vB, rfl, hB, l8⟩
            have HK := Lib.hid (HK.out.later l8)
            have HPA := Lib.hid (HPA.out.later l8)
            have HPB := Lib.hid hB
            clear hB l8
            go_wp2_with fail
            refine (equalu_same HPA.out.seg HPB.out.seg).mono ?_
            rintro e w9 ⟨rfl, l9⟩
            have HK := Lib.hid (HK.out.later l9)
            clear l9 HPA HPB
            go_wp2_with fail
            refine (kDepth_any HK.out.ca).mono ?_
            rintro e wa ⟨rfl, rfl⟩
            go_wp2_with fail
            refine (kDepth_any HK.out.cb).mono ?_
            rintro e wb ⟨rfl, rfl⟩
            go_wp2_with fail
            refine (kLeft_any HK.out.ca).mono ?_
            rintro e wd ⟨rfl, ld⟩
            have HK := Lib.hid (HK.out.later ld)
            clear ld
            go_wp2_with fail
            refine (kLeft_any HK.out.cb).mono ?_
            rintro e we ⟨rfl, le⟩
            have HK := Lib.hid (HK.out.later le)
            clear le
            have hk20' : k + 1 ≤ 20 := by have := HK20.out; omega
            have hkn' : k + 1 ≤ n := by have := HLT.out; omega
            go_wp2
            go_roundw
            case rel => exact ⟨k + 1, X3, hkn', hk20', by go_num, HXS3, HK⟩
            case measure => simp [intOf]; omega
        · go_wp2
          go_meet
          exact Lib.hid HK.out.low
    · go_wp2
      go_loopw [34] (fun i wz => i = .int .i64 0 ∧ Hid (Below w.heap.size w wz)) (fun _ _ => 0)
      case atStart => exact ⟨rfl, LO⟩
      case round =>
        obtain ⟨rfl, HLw⟩ := hrel
        by_cases hlt : 0 < n
        · have hki : 0 < ms.length := by have := HN.out; omega
          obtain ⟨a, rfl, ha⟩ : ∃ a, om = some a ∧ ∀ i (h : i < ms.length), wr.cell? (a.add (i * 2)) = some (.int .i64 ms[i].1) ∧ wr.cell? (a.add (i * 2 + 1)) = some (.int .u64 ms[i].2) := by
            rcases HAM.out.later HLw.out with ⟨_, h0, _⟩ | h
            · rw [h0] at hki; simp at hki
            · exact h
          obtain ⟨e0, e1⟩ := ha 0 hki
          obtain ⟨kd, hkd⟩ : ∃ kd, kd = ms[0].1 := ⟨_, rfl⟩
          obtain ⟨ky, hky⟩ : ∃ ky, ky = ms[0].2 := ⟨_, rfl⟩
          rw [← hkd] at e0
          rw [← hky] at e1
          have e3 : a.add (0 * 2) = a := by simp [Addr.add]
          rw [e3] at e0
          have e2 : wr.cell? (a.add 1) = some (.int .u64 ky) := by simpa using e1
          have e4 : wr.cell? ⟨a.block, a.off + 1, none⟩ = some (.int .u64 ky) := e2
          have e5 : wr.cell? (a.add 0) = some (.int .i64 kd) := by rw [show a.add 0 = a by simp [Addr.add]]; exact e0
          have HGA := Lib.hid (below_later HLw.out (Gr.alloc wr (.cells #[.int .i64 kd, .int .u64 ky] 70)).below)
          clear ha hkd hky hki e1 e3
          go_wp2_with fail
          go_meet
          exact HGA
        · go_wp2
          go_meet
          exact HLw
  case rest =>
    obtain ⟨wE, hwE⟩ : ∃ wE, wE = wc := ⟨_, rfl⟩
    have LE := hcut
    rw [← hwE] at LE ⊢
    clear hwE HD LO
    go_wp2_with fail
    refine (kKey_nil _).mono ?_
    rintro e x1 ⟨rfl, l⟩
    have LE := Lib.hid (below_later LE.out l)
    clear l
    go_wp2_with fail
    refine (kOpen_nil _).mono ?_
    rintro e x1 ⟨rfl, l⟩
    have LE := Lib.hid (below_later LE.out l)
    clear l
    go_wp2_with fail
    refine (kUp_nil _).mono ?_
    rintro e x1 ⟨rfl, l⟩
    have LE := Lib.hid (below_later LE.out l)
    clear l
    go_wp2_with fail
    refine (kNext_nil _).mono ?_
    rintro e x1 ⟨rfl, l⟩
    have LE := Lib.hid (below_later LE.out l)
    clear l
    go_wp2_with fail
    refine (kSeek_nil _ _).mono ?_
    rintro e x1 ⟨rfl, l⟩
    have LE := Lib.hid (below_later LE.out l)
    clear l
    go_wp2_with fail
    refine (kMove_nil _ _ _).mono ?_
    rintro e x1 ⟨rfl, l⟩
    have LE := Lib.hid (below_later LE.out l)
    clear l
    go_wp2_with fail
    refine (kDepth_nil _).mono ?_
    rintro e x1 ⟨rfl, l⟩
    have LE := Lib.hid (below_later LE.out l)
    clear l
    go_wp2_with fail
    refine (kLeft_nil _).mono ?_
    rintro e x1 ⟨rfl, l⟩
    have LE := Lib.hid (below_later LE.out l)
    clear l
    go_wp2_with fail
    refine (kSteps_nil _).mono ?_
    rintro e x1 ⟨rfl, l⟩
    have LE := Lib.hid (below_later LE.out l)
    clear l
    go_wp2_with fail
    refine (kPath_nil _).mono ?_
    rintro e x1 ⟨rfl, l⟩
    have LE := Lib.hid (below_later LE.out l)
    clear l
    go_wp2_with fail
    go_ret
    exact ⟨rfl, LE.out⟩
end Go.Proofs.Ytjfnhjmdgfkgnaa


/- CursorKinds: moves by their names are moves by their kinds, and no cursor answers ErrNil: for all tries and all rows of moves the law returns true. No condition. -/
namespace Go.Proofs.Ytjfnhjmdgfkgnaa
open Go.ChangeShapes Go.WideShapes Go.ChangeAt Go.RowKit Go.Joins Go.Proofs.Kit

set_option maxRecDepth 100000 in
theorem cursorKinds_lifted (os : Os) (started : os.Started) (H : Type) (enc : TypeId × Value → H) :
    ReturnsInHanded {} Try.checked os 7 .any (Rows.cursorKindsSpec.pre6 enc Try.prog Try.f7 Rows.cursorKindsRow.domain false) (Rows.cursorKindsSpec.post enc Try.prog Try.f7 false true false false) := by
  refine returnsInHanded_of_change (C := Try.checked) own started (by kernel_rfl) Try.func7
    (ChangeSpec.witness6 (enc := enc) (C := Try.checked) false ⟨#[], #[.agg #[.slice none 0 0, .slice none 0 0], .slice none 0 0], []⟩ 8 (by kernel_rfl) (by kernel_rfl) (by kernel_rfl) (by kernel_rfl)) ?_
  intro W base args ds gs before hval0 hW _ _
  have hval : ∀ (j : Nat) t v, Try.f7.params[j]? = some t → args[j]? = some v → Value.okWide Try.prog W .any base t v := hval0
  have hW' := hW
  obtain ⟨p, q, hA0, hV, rfl, _, _⟩ := hW
  have hA : DataW.TrodAll enc Try.prog W 0 (fun _ => true) true Try.f7.params.toList args.toList ds p := hA0
  rw [Try.params7] at hA hval
  obtain ⟨v0, v1, d0, d1, p0, p1, rfl, rfl, rfl, h0, h1⟩ := trodAll_two hA
  obtain ⟨rfl, rfl⟩ := trodVars_none hV
  obtain ⟨ob, m, cb, bs, ol, q, cl, lv, rfl, t1, t2, t3, t4, t5, t6, t7, t8, hu, hl⟩ := open_trieU (hval 0 25 v0 rfl rfl) h0
  obtain ⟨om, n, cm, ms, rfl, u1, u2, u3, u4, u5⟩ := open_argM (hval 1 59 v1 rfl rfl) h1
  refine (kinds_true ob m cb ol q cl bs lv om n cm ms W t1 t2 t3 t4 t5 t6 t7 t8 hu hl u1 u2 u3 u4 u5).mono fun e W' ⟨he, hb⟩ => ?_
  subst he
  exact ⟨_, rfl, law_post laidOut (by kernel_rfl) (by kernel_rfl : Try.f7.resultTypes = #[4]) Try.underlying4 rfl hW' rfl hb⟩

theorem cursorKinds_holds : Rows.CursorKindsSaid :=
  OpenClaim.holds_of_wide 7 Try.f7 rfl rfl rfl rfl rfl rfl rfl ⟨rfl, rfl, rfl, rfl, rfl⟩ rfl rfl rfl rfl rfl (by kernel_rfl) Try.func7 (by kernel_rfl)
    (of_decide_eq_true (by kernel_rfl)) (by unfold Func.isWrapper; first | (rw [if_pos (by decide +kernel)]; kernel_rfl) | (rw [if_neg (by decide +kernel)]; exact ⟨rfl, rfl⟩))
    (fun os started H enc _ => cursorKinds_lifted os started H enc)
#print axioms cursorKinds_holds
end Go.Proofs.Ytjfnhjmdgfkgnaa

