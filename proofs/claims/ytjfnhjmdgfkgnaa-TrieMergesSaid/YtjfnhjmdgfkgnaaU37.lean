/- TrieMerges: its walk. -/
import Derived.Test.YtjfnhjmdgfkgnaaHS
import Derived.Test.YtjfnhjmdgfkgnaaU22
import Derived.Test.YtjfnhjmdgfkgnaaU33
import Derived.Test.YtjfnhjmdgfkgnaaN14
namespace Go.Proofs.Kit
open Go.RowKit
theorem prs_bof {l : List Pr} (h : okP l) : prs (bof l) (l.map (·.2)) = l := (tri_of h).1.prs
theorem mrg_bof {a b : List Pr} (ha : okP a) (hb : okP b) : mrgE (bof a) (a.map (·.2)) (bof b) (b.map (·.2)) = 0 ∧ mrgP (bof a) (a.map (·.2)) (bof b) (b.map (·.2)) = comb true true true a b := by
  have h := And.intro (tri_of ha).2 (tri_of hb).2
  exact ⟨if_pos h, by unfold mrgP; rw [if_pos h, prs_bof ha, prs_bof hb]⟩
def rng (l : List Pr) (f t : Int) : List Pr := l.filter fun x => decide (f ≤ x.1) && decide (x.1 < t)
theorem cut_bof {l : List Pr} (h : okP l) {f t : Int} (hft : f ≤ t) : cutE (bof l) (l.map (·.2)) f t = 0 ∧ cutQ (bof l) (l.map (·.2)) f t = rng l f t := by
  have hk := (tri_of h).2
  constructor
  · unfold cutE; rw [if_pos hk, if_neg (by omega)]
  · unfold cutQ; rw [if_pos ⟨hk, hft⟩]
    unfold cutT rng
    rw [prs_bof h]
theorem rng_ok {l : List Pr} (h : okP l) (f t : Int) : okP (rng l f t) := ⟨filt_run h.1 _, Nat.le_trans (List.length_filter_le _ _) h.2⟩
theorem rng_two {l : List Pr} (h : okP l) {a b c : Int} (h1 : a ≤ b) (h2 : b ≤ c) : comb true true true (rng l a b) (rng l b c) = rng l a c := by
  have k1 := (rng_ok h a b).1
  have k2 := (rng_ok h b c).1
  refine run_ext (comb_run k1 k2 true true true) (rng_ok h a c).1 fun p => ?_
  rw [comb_mem k1 k2]
  simp only [rng, List.mem_filter, Bool.and_eq_true, decide_eq_true_eq, true_and]
  by_cases hp : p ∈ l <;> simp [hp] <;> omega
end Go.Proofs.Kit
namespace Go.Proofs.Ytjfnhjmdgfkgnaa
open Go.RowKit Go.Proofs.Kit
set_option maxRecDepth 100000 in
set_option maxHeartbeats 1000000 in
/-- slices.Sort: the row alone is written. -/
theorem sort_but (B g n cap : Nat) (l : List Int) (w : World) (h : Ow 52 B w (.slice (some ⟨g, 0, none⟩) n cap) (l.map (Value.int .u64))) (hn : n = l.length) (hn1 : n ≤ 1000000) :
    Calls Try.prog 31 #[.slice (some ⟨g, 0, none⟩) n cap] w fun e w' => ∃ l' : List Int, e = .returned (.tuple #[]) ∧ Ow 52 B w' (.slice (some ⟨g, 0, none⟩) n cap) (l'.map (Value.int .u64)) ∧ l'.length = n ∧ l'.Pairwise (· ≤ ·) ∧ ButR (· = g) w w' := by
  have hs0 := SR.start (d := l.toArray) (n := n) (g := g) (cap := cap) (by simpa using h) (by simp [hn])
  have HS := Lib.hid hs0
  have hwn : IntKind.u64.wrap (n : Int) = (n : Int) := by rw [IntKind.wrap_u64]; omega
  obtain ⟨lim, hlim⟩ : ∃ lim, lim = Lib.bitLen n := ⟨_, rfl⟩
  have hlm : lim ≤ 1000 := by
    rw [hlim]
    have := bitLen_le 64 n
    unfold Lib.bitLen
    omega
  have hlen := fun w => Try.bits_Len (n : Int) w (by omega) (by omega)
  rw [Int.toNat_natCast, ← hlim] at hlen
  have hpd := pdq_rec B g n cap w hn1 (n + 1) 0 n 0 (n : Int) lim l.toArray w (by omega) rfl rfl HS.out (Nat.zero_le _) (Nat.le_refl _) hlm (.inl rfl)
  clear hs0 hlim hlm hn h
  go_enter Try.func31, Try.ntmps31
  go_wp2_with (first | (go_at_call 69; refine (hlen _).mono ?_; rintro e w' ⟨rfl, rfl⟩) | (go_at_call 68; refine hpd.mono ?_; rintro e w' ⟨d, rfl, hp, hs, HR⟩))
  go_end0
  have hd : d.size = n := HR.out.len
  refine ⟨d.toList, rfl, by simpa using HR.out.ow, by rw [Array.length_toList, hd], ?_, HR.out.but⟩
  rw [List.pairwise_iff_getElem]
  intro i j hi hj hij
  have h0 := hs i j (Nat.zero_le _) hij (by rw [← hd]; simpa using hj)
  rw [getE d (i := j) (by simpa using hj), getE d (i := i) (by simpa using hi)] at h0
  simpa using h0
structure B7 (T : Nat) (ob : Option Addr) (m cb : Nat) (ol : Option Addr) (q cl : Nat) (L : List Pr) (W : World) : Prop where
  k : Blk W T #[.slice ob m cb, .slice ol q cl] 25
  b : OwnR 68 0 W (.slice ob m cb) (bof L)
  l : Owns .u64 32 0 W (.slice ol q cl) (L.map (·.2))
theorem B7.later {T : Nat} {ob : Option Addr} {m cb : Nat} {ol : Option Addr} {q cl : Nat} {L : List Pr} {W W' : World} (h : B7 T ob m cb ol q cl L W) (g : Below W.heap.size W W') : B7 T ob m cb ol q cl L W' := ⟨h.k.later g, h.b.later g, h.l.later g⟩
theorem B7.new {B : Nat} {ob : Option Addr} {m cb : Nat} {ol : Option Addr} {q cl : Nat} {L : List Pr} {W : World} (hB : OwnR 68 B W (.slice ob m cb) (bof L)) (hL : Owns .u64 32 B W (.slice ol q cl) (L.map (·.2))) :
    B7 W.heap.size ob m cb ol q cl L (W.alloc (.cells #[.slice ob m cb, .slice ol q cl] 25)) :=
  ⟨Blk.new _ _ _, (hB.mono (Nat.zero_le _)).later (Gr.alloc _ _).below, (hL.mono (Nat.zero_le _)).later (Gr.alloc _ _).below⟩
theorem B7.butR {T g : Nat} {ob : Option Addr} {m cb : Nat} {ol : Option Addr} {q cl : Nat} {L : List Pr} {W W' : World} (h : B7 T ob m cb ol q cl L W) {vs : Array Value} (hk : Blk W g vs 52) (hne : T ≠ g) (hr : ButR (· = g) W W') : B7 T ob m cb ol q cl L W' :=
  ⟨hr.blk h.k hne, h.b.same fun x hx => hr.same x (fun e => h.b.ne_blk hk (by decide) (e ▸ hx)) (h.b.lt x hx).2, h.l.same fun x hx => hr.same x (fun e => h.l.ne_blk hk (by decide) (e ▸ hx)) (h.l.lt x hx).2⟩
theorem B7.lens {T : Nat} {ob : Option Addr} {m cb : Nat} {ol : Option Addr} {q cl : Nat} {L : List Pr} {W : World} (h : B7 T ob m cb ol q cl L W) : (bof L).length = m ∧ (L.map (·.2)).length = q := ⟨segR_len h.b.seg, seg_len h.l.seg⟩
theorem same7_yes (v1 v2 v3 v4 : Value) (b : List Br) (l : List Int) (w : World) (h1 : SegR w v1 b) (h2 : Seg .u64 w v2 l) (h3 : SegR w v3 b) (h4 : Seg .u64 w v4 l) :
    Calls Try.prog 30 #[.agg #[v1, v2], .agg #[v3, v4]] w fun e w' => e = .returned (.bool true) ∧ Below w.heap.size w w' :=
  (same7_any v1 v2 v3 v4 b b l l w h1 h2 h3 h4).mono fun _ _ ⟨h, g⟩ => ⟨by rw [h]; simp, g⟩
theorem yof_ok (v : Value) (l : List Pr) (w : World) (hs : SegP w v l) (hn : l.length ≤ 100000) (hok : okP l) :
    Calls Try.prog 27 #[v] w fun e w' => ∃ ob m cb ol q cl, e = .returned (.tuple #[.agg #[.slice ob m cb, .slice ol q cl], .int .i64 0]) ∧ OwnR 68 w.heap.size w' (.slice ob m cb) (bof l) ∧ Owns .u64 32 w.heap.size w' (.slice ol q cl) (l.map (·.2)) ∧ Below w.heap.size w w' := by
  have h := yof_any v l w hs hn
  unfold ofE ofB ofL at h
  rw [if_pos hok, if_pos hok, if_pos hok] at h
  exact h
theorem yof_no (v : Value) (l : List Pr) (w : World) (hs : SegP w v l) (hn : l.length ≤ 100000) (hok : ¬ okP l) :
    Calls Try.prog 27 #[v] w fun e w' => ∃ ob m cb ol q cl, e = .returned (.tuple #[.agg #[.slice ob m cb, .slice ol q cl], .int .i64 130]) ∧ Below w.heap.size w w' := by
  have h := yof_any v l w hs hn
  unfold ofE at h
  rw [if_neg hok] at h
  exact h.mono fun _ _ ⟨ob, m, cb, ol, q, cl, h1, _, _, h4⟩ => ⟨ob, m, cb, ol, q, cl, h1, h4⟩
/-- Merge of two tries in their boxes. -/
theorem mrg7 {T T' : Nat} {o1 : Option Addr} {m1 c1 : Nat} {o2 : Option Addr} {q1 d1 : Nat} {o3 : Option Addr} {m2 c2 : Nat} {o4 : Option Addr} {q2 d2 : Nat} {A B C : List Pr} {w : World} (ha : B7 T o1 m1 c1 o2 q1 d1 A w) (hb : B7 T' o3 m2 c2 o4 q2 d2 B w)
    (ka : okP A) (kb : okP B) (la : A.length ≤ 1000) (lb : B.length ≤ 1000) (hC : comb true true true A B = C) :
    Calls Try.prog 21 #[.agg #[.slice o1 m1 c1, .slice o2 q1 d1], .agg #[.slice o3 m2 c2, .slice o4 q2 d2]] w (TrieE w 0 (bof C) (C.map (·.2))) := by
  have h := ymerge_any o1 m1 c1 o2 q1 d1 o3 m2 c2 o4 q2 d2 (bof A) (bof B) (A.map (·.2)) (B.map (·.2)) w ha.b.seg ha.l.seg hb.b.seg hb.l.seg (Nat.le_trans (bof_le _) (by omega)) (by rw [List.length_map]; omega) (Nat.le_trans (bof_le _) (by omega)) (by rw [List.length_map]; omega)
  rw [(mrg_bof ka kb).1, (mrg_bof ka kb).2, hC] at h
  exact h
theorem cut7 {T : Nat} {o1 : Option Addr} {m1 c1 : Nat} {o2 : Option Addr} {q1 d1 : Nat} {A : List Pr} {w : World} (ha : B7 T o1 m1 c1 o2 q1 d1 A w) (ka : okP A) (la : A.length ≤ 1000) {f t : Int} (hft : f ≤ t) :
    Calls Try.prog 22 #[.agg #[.slice o1 m1 c1, .slice o2 q1 d1], .int .u64 f, .int .u64 t] w (TrieE w 0 (bof (rng A f t)) ((rng A f t).map (·.2))) := by
  have h := ycut_any o1 m1 c1 o2 q1 d1 (bof A) (A.map (·.2)) f t w ha.b.seg ha.l.seg ha.lens.1 ha.lens.2 (by rw [← ha.lens.1]; exact Nat.le_trans (bof_le _) (by omega)) (by rw [← ha.lens.2, List.length_map]; omega)
  rw [(cut_bof ka hft).1, (cut_bof ka hft).2] at h
  exact h
theorem ow_blk {B g : Nat} {w : World} {l : List Int} {t : TypeId} (hB : B ≤ g) (hb : Blk w g (l.map (Value.int .u64)).toArray t) (hm : l.length ≤ 9223372036854775807) : Ow t B w (.slice (some ⟨g, 0, none⟩) l.length l.length) (l.map (Value.int .u64)) :=
  (show Owns .u64 t B w (.slice (some ⟨g, 0, none⟩) l.length l.length) l from ⟨by simp, .inr ⟨g, l.length, (l.map (Value.int .u64)).toArray, rfl, hB, hb, Nat.le_refl _, by unfold maxLen; omega, by simp, by simp [List.take_of_length_le]⟩⟩).ow
set_option maxRecDepth 100000 in
set_option maxHeartbeats 8000000 in
theorem trieMerges_true (ox : Option Addr) (nx cx : Nat) (X : List Pr) (oy : Option Addr) (ny cy : Nat) (Y : List Pr) (k0 k1 k2 : Int) (w : World)
    (hxn : X.length = nx) (hxc : nx ≤ cx) (hxm : cx ≤ 9223372036854775807) (hx : ArgP w ox cx X) (hyn : Y.length = ny) (hyc : ny ≤ cy) (hym : cy ≤ 9223372036854775807) (hy : ArgP w oy cy Y) :
    Calls Try.prog 5 #[.slice ox nx cx, .slice oy ny cy, .agg #[.int .u64 k0, .int .u64 k1, .int .u64 k2]] w fun e w' => e = .returned (.bool true) ∧ Below w.heap.size w w' := by
  have HFX := Lib.hid (fun W (g : Below w.heap.size w W) => few7_any ox nx cx X W hxn hxc hxm (hx.later g))
  have HFY := Lib.hid (fun W (g : Below w.heap.size w W) => few7_any oy ny cy Y W hyn hyc hym (hy.later g))
  have hA4 : (X.take 40).length ≤ 40 := by rw [List.length_take]; omega
  have hB4 : (Y.take 40).length ≤ 40 := by rw [List.length_take]; omega
  obtain ⟨A, hA⟩ : ∃ A, A = X.take 40 := ⟨_, rfl⟩
  obtain ⟨B, hB⟩ : ∃ B, B = Y.take 40 := ⟨_, rfl⟩
  rw [← hA] at HFX hA4
  rw [← hB] at HFY hB4
  have HAL := Lib.hid hA4
  have HBL := Lib.hid hB4
  clear hxn hxc hxm hx hyn hyc hym hy hA hB hA4 hB4
  go_enter Try.func5, Try.ntmps5
  go_wp2_with fail
  refine (wakes7_true _).mono ?_
  rintro e w1 ⟨rfl, l1⟩
  have KC := Lib.hid ((Blk.new w #[.int .u64 k0, .int .u64 k1, .int .u64 k2] 52).later l1)
  have LO := Lib.hid (below_later (Gr.alloc w (.cells #[.int .u64 k0, .int .u64 k1, .int .u64 k2] 52)).below l1)
  clear l1
  go_wp2_with fail
  refine (HFX.out _ LO.out).mono ?_
  rintro e w2 ⟨vx, rfl, hFX, l2⟩
  have KC := Lib.hid (KC.out.later l2)
  have LO := Lib.hid (below_later LO.out l2)
  have SX := Lib.hid hFX.seg
  clear hFX l2
  go_wp2_with fail
  by_cases hokA : okP A
  case neg =>
    refine (yof_no vx A _ SX.out (by have := HAL.out; omega) hokA).mono ?_
    rintro e w3 ⟨ob, m, cb, ol, q, cl, rfl, l3⟩
    have LO := Lib.hid (below_later LO.out l3)
    clear l3 hokA KC SX
    go_upto_region 4 with fail
    obtain ⟨W4, hW4⟩ : ∃ W4, W4 = w3.alloc (.cells #[.slice ob m cb, .slice ol q cl] 25) := ⟨_, rfl⟩
    have st : Below w3.heap.size w3 W4 := by rw [hW4]; exact (Gr.alloc _ _).below
    rw [← hW4]
    have LO := Lib.hid (below_later LO.out st)
    clear hW4 st
    go_wp2_with fail
    refine (HFY.out _ LO.out).mono ?_
    rintro e w5 ⟨vy, rfl, hFY, l5⟩
    have LO := Lib.hid (below_later LO.out l5)
    have SY := Lib.hid hFY.seg
    clear hFY l5
    go_wp2_with fail
    refine (yof_any vy B _ SY.out (by have := HBL.out; omega)).mono ?_
    rintro e w6 ⟨ob', m', cb', ol', q', cl', rfl, _, _, l6⟩
    have LO := Lib.hid (below_later (below_later LO.out l6) (Gr.alloc w6 (.cells #[.slice ob' m' cb', .slice ol' q' cl'] 25)).below)
    clear l6 SY
    go_wp2_with fail
    go_ret
    exact ⟨rfl, LO.out⟩
  case pos =>
    refine (yof_ok vx A _ SX.out (by have := HAL.out; omega) hokA).mono ?_
    rintro e w3 ⟨oa, ma, ca, oc, qc, cc, rfl, hB, hL, l3⟩
    have HMO := Lib.hid (And.intro hB hL)
    have KC := Lib.hid (KC.out.later l3)
    have LO := Lib.hid (below_later LO.out l3)
    have HOKA := Lib.hid hokA
    clear hB hL l3 hokA SX
    go_upto_region 4 with fail
    obtain ⟨TA, hTA⟩ : ∃ TA, TA = w3.heap.size := ⟨_, rfl⟩
    obtain ⟨WTA, hW⟩ : ∃ W, W = w3.alloc (.cells #[.slice oa ma ca, .slice oc qc cc] 25) := ⟨_, rfl⟩
    have st : Below w3.heap.size w3 WTA := by rw [hW]; exact (Gr.alloc _ _).below
    have BA := Lib.hid (show B7 TA oa ma ca oc qc cc A WTA from by rw [hW, hTA]; exact B7.new HMO.out.1 HMO.out.2)
    rw [← hW, ← hTA]
    have KC := Lib.hid (KC.out.later st)
    have LO := Lib.hid (below_later LO.out st)
    clear hW hTA st HMO
    go_wp2_with fail
    refine (HFY.out _ LO.out).mono ?_
    rintro e w4 ⟨vy, rfl, hFY, l4⟩
    have SY := Lib.hid hFY.seg
    have KC := Lib.hid (KC.out.later l4)
    have BA := Lib.hid (BA.out.later l4)
    have LO := Lib.hid (below_later LO.out l4)
    clear hFY l4
    go_wp2_with fail
    by_cases hokB : okP B
    case neg =>
      refine (yof_no vy B _ SY.out (by have := HBL.out; omega) hokB).mono ?_
      rintro e w5 ⟨ob', m', cb', ol', q', cl', rfl, l5⟩
      have LO := Lib.hid (below_later (below_later LO.out l5) (Gr.alloc w5 (.cells #[.slice ob' m' cb', .slice ol' q' cl'] 25)).below)
      clear l5 SY KC BA hokB
      go_wp2_with fail
      go_ret
      exact ⟨rfl, LO.out⟩
    refine (yof_ok vy B _ SY.out (by have := HBL.out; omega) hokB).mono ?_
    rintro e w5 ⟨ob, mb, cb, od, qd, cd, rfl, hB, hL, l5⟩
    have HMO := Lib.hid (And.intro hB hL)
    have KC := Lib.hid (KC.out.later l5)
    have BA := Lib.hid (BA.out.later l5)
    have LO := Lib.hid (below_later LO.out l5)
    have HOKB := Lib.hid hokB
    clear hB hL l5 hokB SY
    go_upto_region 5 with fail
    obtain ⟨TB, hTB⟩ : ∃ TB, TB = w5.heap.size := ⟨_, rfl⟩
    obtain ⟨WTB, hW⟩ : ∃ W, W = w5.alloc (.cells #[.slice ob mb cb, .slice od qd cd] 25) := ⟨_, rfl⟩
    have st : Below w5.heap.size w5 WTB := by rw [hW]; exact (Gr.alloc _ _).below
    have BB := Lib.hid (show B7 TB ob mb cb od qd cd B WTB from by rw [hW, hTB]; exact B7.new HMO.out.1 HMO.out.2)
    rw [← hW, ← hTB]
    have KC := Lib.hid (KC.out.later st)
    have BA := Lib.hid (BA.out.later st)
    have LO := Lib.hid (below_later LO.out st)
    clear hW hTB st HMO
    go_upto_region 7 with fail
    go_wp2_with fail
    refine (HFX.out _ LO.out).mono ?_
    rintro e w6 ⟨vx2, rfl, hFX, l6⟩
    have SX := Lib.hid hFX.seg
    have KC := Lib.hid (KC.out.later l6)
    have BA := Lib.hid (BA.out.later l6)
    have BB := Lib.hid (BB.out.later l6)
    have LO := Lib.hid (below_later LO.out l6)
    clear hFX l6
    go_wp2_with fail
    refine (HFY.out _ LO.out).mono ?_
    rintro e w7 ⟨vy2, rfl, hFY, l7⟩
    have SX := Lib.hid (SX.out.later l7)
    have SY := Lib.hid hFY.seg
    have KC := Lib.hid (KC.out.later l7)
    have BA := Lib.hid (BA.out.later l7)
    have BB := Lib.hid (BB.out.later l7)
    have LO := Lib.hid (below_later LO.out l7)
    clear hFY l7
    go_wp2_with fail
    have hun := union_any vx2 vy2 A B _ SX.out SY.out (by have := HAL.out; have := HBL.out; omega)
    rw [show ck2 A B = 0 from if_pos ⟨HOKA.out, HOKB.out⟩, show cmb true true true A B = comb true true true A B from if_pos ⟨HOKA.out, HOKB.out⟩] at hun
    obtain ⟨C, hC⟩ : ∃ C, C = comb true true true A B := ⟨_, rfl⟩
    have hCl : C.length ≤ 80 := by rw [hC]; exact Nat.le_trans (Nat.le_trans (keepP_len _ _ _ _) (tog_len _ _)) (by have := HAL.out; have := HBL.out; omega)
    have hCk : okP C := ⟨by rw [hC]; exact comb_run HOKA.out.1 HOKB.out.1 true true true, by omega⟩
    rw [← hC] at hun
    refine hun.mono ?_
    rintro e w8 ⟨vc, rfl, hFC, l8⟩
    have SC := Lib.hid hFC.seg
    have KC := Lib.hid (KC.out.later l8)
    have BA := Lib.hid (BA.out.later l8)
    have BB := Lib.hid (BB.out.later l8)
    have LO := Lib.hid (below_later LO.out l8)
    have HC := Lib.hid hC
    have HCL := Lib.hid hCl
    have HCK := Lib.hid hCk
    clear hun hC hCl hCk hFC l8 SX SY HFX HFY
    obtain ⟨a0, a1, al⟩ := BA.out.k.two
    obtain ⟨b0, b1, bl⟩ := BB.out.k.two
    go_wp2_with fail
    refine (mrg7 BA.out BB.out HOKA.out HOKB.out (by have := HAL.out; omega) (by have := HBL.out; omega) HC.out.symm).mono ?_
    rintro e w9 ⟨o9, m9, c9, oX, qX, cX, rfl, hB, hL, l9⟩
    have HMO := Lib.hid (And.intro hB hL)
    have SC := Lib.hid (SC.out.later l9)
    have KC := Lib.hid (KC.out.later l9)
    have LO := Lib.hid (below_later LO.out l9)
    clear hB hL l9 a0 a1 al b0 b1 bl BA BB HAL HBL HOKA HOKB
    go_upto_region 9 with fail
    obtain ⟨TM, hTM⟩ : ∃ TM, TM = w9.heap.size := ⟨_, rfl⟩
    obtain ⟨WTM, hW⟩ : ∃ W, W = w9.alloc (.cells #[.slice o9 m9 c9, .slice oX qX cX] 25) := ⟨_, rfl⟩
    have st : Below w9.heap.size w9 WTM := by rw [hW]; exact (Gr.alloc _ _).below
    have BM := Lib.hid (show B7 TM o9 m9 c9 oX qX cX C WTM from by rw [hW, hTM]; exact B7.new HMO.out.1 HMO.out.2)
    rw [← hW, ← hTM]
    have KC := Lib.hid (KC.out.later st)
    have SC := Lib.hid (SC.out.later st)
    have LO := Lib.hid (below_later LO.out st)
    clear hW hTM st HMO
    go_wp2_with fail
    refine (yof_ok vc C _ SC.out (by have := HCL.out; omega) HCK.out).mono ?_
    rintro e wA ⟨oe, me, ce, og, qg, cg, rfl, hB, hL, lA⟩
    have HMO := Lib.hid (And.intro hB hL)
    have KC := Lib.hid (KC.out.later lA)
    have BM := Lib.hid (BM.out.later lA)
    have LO := Lib.hid (below_later LO.out lA)
    clear hB hL lA SC
    go_upto_region 10 with fail
    obtain ⟨TW, hTW⟩ : ∃ TW, TW = wA.heap.size := ⟨_, rfl⟩
    obtain ⟨WTW, hW⟩ : ∃ W, W = wA.alloc (.cells #[.slice oe me ce, .slice og qg cg] 25) := ⟨_, rfl⟩
    have st : Below wA.heap.size wA WTW := by rw [hW]; exact (Gr.alloc _ _).below
    have BW := Lib.hid (show B7 TW oe me ce og qg cg C WTW from by rw [hW, hTW]; exact B7.new HMO.out.1 HMO.out.2)
    rw [← hW, ← hTW]
    have KC := Lib.hid (KC.out.later st)
    have BM := Lib.hid (BM.out.later st)
    have LO := Lib.hid (below_later LO.out st)
    clear hW hTW st HMO
    obtain ⟨a0, a1, al⟩ := BM.out.k.two
    obtain ⟨b0, b1, bl⟩ := BW.out.k.two
    go_wp2_with fail
    refine (same7_yes _ _ _ _ (bof C) (C.map (·.2)) _ BM.out.b.seg BM.out.l.seg BW.out.b.seg BW.out.l.seg).mono ?_
    rintro e wB ⟨rfl, lB⟩
    have KC := Lib.hid (KC.out.later lB)
    have BM := Lib.hid (BM.out.later lB)
    have LO := Lib.hid (below_later LO.out lB)
    clear lB a0 a1 al b0 b1 bl BW
    have hng : TM ≠ w.heap.size := by
      intro e
      subst e
      have h1 : Blk wB w.heap.size #[.slice o9 m9 c9, .slice oX qX cX] 25 := BM.out.k
      have h2 : Blk wB w.heap.size #[.int .u64 k0, .int .u64 k1, .int .u64 k2] 52 := KC.out
      unfold Blk at h1 h2
      rw [h1] at h2
      simp at h2
    have HNG := Lib.hid hng
    have hkl := KC.out.lt
    have hso := sort_but w.heap.size w.heap.size 3 3 [k0, k1, k2] wB (ow_blk (l := [k0, k1, k2]) (Nat.le_refl _) KC.out (by simp)) rfl (by omega)
    have HSO := Lib.hid hso
    have k0c := KC.out.cell 0
    clear hso hng
    go_wp2_with fail
    refine HSO.out.mono ?_
    rintro e wC ⟨l', rfl, hOw, hl3, hsrt, hbut⟩
    obtain ⟨x0, x1, x2, rfl⟩ : ∃ x0 x1 x2, l' = [x0, x1, x2] := by
      match l', hl3 with
      | [a, b, c], _ => exact ⟨a, b, c, rfl⟩
    have h01 : x0 ≤ x1 := by simp at hsrt; omega
    have h12 : x1 ≤ x2 := by simp at hsrt; omega
    have hce : ∀ i (h : i < 3), wC.cell? ⟨w.heap.size, i, none⟩ = ([x0, x1, x2].map (Value.int .u64))[i]? := by
      rcases hOw.sl.2 with ⟨e, _⟩ | ⟨b, off, cap, e, _, _, _, h5⟩
      · cases e
      · injection e with e1 _ _
        injection e1 with e1
        injection e1 with e1 e2 _
        intro i h
        have h6 := h5 i (by simpa using h)
        rw [← e1, ← e2, Nat.zero_add] at h6
        rw [h6]
        exact (List.getElem?_eq_getElem (by simpa using h)).symm
    have hlt : w.heap.size < wC.heap.size := World.block_lt_of_cell? _ _ (hce 0 (by decide))
    have HCE := Lib.hid (fun W (g : Below wC.heap.size wC W) => show W.cell? ⟨w.heap.size, 0, none⟩ = some (.int .u64 x0) ∧ W.cell? ⟨w.heap.size, 1, none⟩ = some (.int .u64 x1) ∧ W.cell? ⟨w.heap.size, 2, none⟩ = some (.int .u64 x2) ∧ w.heap.size < W.heap.size from
      ⟨(g.cell (p := ⟨w.heap.size, 0, none⟩) hlt).trans (hce 0 (by decide)), (g.cell (p := ⟨w.heap.size, 1, none⟩) hlt).trans (hce 1 (by decide)), (g.cell (p := ⟨w.heap.size, 2, none⟩) hlt).trans (hce 2 (by decide)), Nat.lt_of_lt_of_le hlt g.size⟩)
    have BM := Lib.hid (BM.out.butR KC.out HNG.out hbut)
    have LO := Lib.hid (LO.out.trans (hbut.below (B := w.heap.size) (fun b hb => by rw [hb]; exact Nat.le_refl _) (by omega)))
    have HBS : Hid (Below wC.heap.size wC wC) := Lib.hid (Below.refl _ _)
    have H01 := Lib.hid h01
    have H12 := Lib.hid h12
    have H02 := Lib.hid (Int.le_trans h01 h12)
    clear hOw hl3 hsrt hbut hce hlt h01 h12 HSO KC HNG hkl k0c
    obtain ⟨a0, a1, al⟩ := BM.out.k.two
    obtain ⟨i0, i1, i2, il⟩ := HCE.out _ HBS.out
    go_wp2_with fail
    refine (cut7 BM.out HCK.out (by have := HCL.out; omega) H01.out).mono ?_
    rintro e wD ⟨oa2, ma2, ca2, oc2, qc2, cc2, rfl, hB, hL, lz⟩
    have HMO := Lib.hid (And.intro hB hL)
    have BM := Lib.hid (BM.out.later lz)
    have LO := Lib.hid (below_later LO.out lz)
    have HBS := Lib.hid (below_later HBS.out lz)
    clear hB hL lz a0 a1 al i0 i1 i2 il
    go_upto_region 14 with fail
    obtain ⟨TP1, hTP1⟩ : ∃ TP1, TP1 = wD.heap.size := ⟨_, rfl⟩
    obtain ⟨WTP1, hW⟩ : ∃ W, W = wD.alloc (.cells #[.slice oa2 ma2 ca2, .slice oc2 qc2 cc2] 25) := ⟨_, rfl⟩
    have st : Below wD.heap.size wD WTP1 := by rw [hW]; exact (Gr.alloc _ _).below
    have BP := Lib.hid (show B7 TP1 oa2 ma2 ca2 oc2 qc2 cc2 (rng C x0 x1) WTP1 from by rw [hW, hTP1]; exact B7.new HMO.out.1 HMO.out.2)
    rw [← hW, ← hTP1]
    have BM := Lib.hid (BM.out.later st)
    have LO := Lib.hid (below_later LO.out st)
    have HBS := Lib.hid (below_later HBS.out st)
    clear hW hTP1 st HMO
    obtain ⟨a0, a1, al⟩ := BM.out.k.two
    obtain ⟨i0, i1, i2, il⟩ := HCE.out _ HBS.out
    go_wp2_with fail
    refine (cut7 BM.out HCK.out (by have := HCL.out; omega) H12.out).mono ?_
    rintro e wE ⟨ob2, mb2, cb2, od2, qd2, cd2, rfl, hB, hL, lz⟩
    have HMO := Lib.hid (And.intro hB hL)
    have BM := Lib.hid (BM.out.later lz)
    have BP := Lib.hid (BP.out.later lz)
    have LO := Lib.hid (below_later LO.out lz)
    have HBS := Lib.hid (below_later HBS.out lz)
    clear hB hL lz a0 a1 al i0 i1 i2 il
    go_upto_region 15 with fail
    obtain ⟨TQ1, hTQ1⟩ : ∃ TQ1, TQ1 = wE.heap.size := ⟨_, rfl⟩
    obtain ⟨WTQ1, hW⟩ : ∃ W, W = wE.alloc (.cells #[.slice ob2 mb2 cb2, .slice od2 qd2 cd2] 25) := ⟨_, rfl⟩
    have st : Below wE.heap.size wE WTQ1 := by rw [hW]; exact (Gr.alloc _ _).below
    have BQ := Lib.hid (show B7 TQ1 ob2 mb2 cb2 od2 qd2 cd2 (rng C x1 x2) WTQ1 from by rw [hW, hTQ1]; exact B7.new HMO.out.1 HMO.out.2)
    rw [← hW, ← hTQ1]
    have BM := Lib.hid (BM.out.later st)
    have BP := Lib.hid (BP.out.later st)
    have LO := Lib.hid (below_later LO.out st)
    have HBS := Lib.hid (below_later HBS.out st)
    clear hW hTQ1 st HMO
    obtain ⟨a0, a1, al⟩ := BM.out.k.two
    obtain ⟨i0, i1, i2, il⟩ := HCE.out _ HBS.out
    go_wp2_with fail
    refine (cut7 BM.out HCK.out (by have := HCL.out; omega) H02.out).mono ?_
    rintro e wF ⟨of2, mf2, cf2, oh2, qh2, ch2, rfl, hB, hL, lz⟩
    have HMO := Lib.hid (And.intro hB hL)
    have BM := Lib.hid (BM.out.later lz)
    have BP := Lib.hid (BP.out.later lz)
    have BQ := Lib.hid (BQ.out.later lz)
    have LO := Lib.hid (below_later LO.out lz)
    have HBS := Lib.hid (below_later HBS.out lz)
    clear hB hL lz a0 a1 al i0 i1 i2 il
    go_upto_region 16 with fail
    obtain ⟨TR1, hTR1⟩ : ∃ TR1, TR1 = wF.heap.size := ⟨_, rfl⟩
    obtain ⟨WTR1, hW⟩ : ∃ W, W = wF.alloc (.cells #[.slice of2 mf2 cf2, .slice oh2 qh2 ch2] 25) := ⟨_, rfl⟩
    have st : Below wF.heap.size wF WTR1 := by rw [hW]; exact (Gr.alloc _ _).below
    have BR := Lib.hid (show B7 TR1 of2 mf2 cf2 oh2 qh2 ch2 (rng C x0 x2) WTR1 from by rw [hW, hTR1]; exact B7.new HMO.out.1 HMO.out.2)
    rw [← hW, ← hTR1]
    have BM := Lib.hid (BM.out.later st)
    have BP := Lib.hid (BP.out.later st)
    have BQ := Lib.hid (BQ.out.later st)
    have LO := Lib.hid (below_later LO.out st)
    have HBS := Lib.hid (below_later HBS.out st)
    clear hW hTR1 st HMO
    obtain ⟨a0, a1, al⟩ := BP.out.k.two
    obtain ⟨b0, b1, bl⟩ := BQ.out.k.two
    have hcl : ∀ f t, (rng C f t).length ≤ 80 := fun f t => Nat.le_trans (List.length_filter_le _ _) HCL.out
    go_wp2_with fail
    refine (mrg7 BP.out BQ.out (rng_ok HCK.out _ _) (rng_ok HCK.out _ _) (Nat.le_trans (hcl _ _) (by decide)) (Nat.le_trans (hcl _ _) (by decide)) (rng_two HCK.out H01.out H12.out)).mono ?_
    rintro e wG ⟨oi2, mi2, ci2, oj2, qj2, cj2, rfl, hB, hL, lz⟩
    have HMO := Lib.hid (And.intro hB hL)
    have BR := Lib.hid (BR.out.later lz)
    have LO := Lib.hid (below_later LO.out lz)
    have HBS := Lib.hid (below_later HBS.out lz)
    clear hB hL lz a0 a1 al b0 b1 bl BP BQ BM hcl
    go_upto_region 17 with fail
    obtain ⟨TZ1, hTZ1⟩ : ∃ TZ1, TZ1 = wG.heap.size := ⟨_, rfl⟩
    obtain ⟨WTZ1, hW⟩ : ∃ W, W = wG.alloc (.cells #[.slice oi2 mi2 ci2, .slice oj2 qj2 cj2] 25) := ⟨_, rfl⟩
    have st : Below wG.heap.size wG WTZ1 := by rw [hW]; exact (Gr.alloc _ _).below
    have BZ := Lib.hid (show B7 TZ1 oi2 mi2 ci2 oj2 qj2 cj2 (rng C x0 x2) WTZ1 from by rw [hW, hTZ1]; exact B7.new HMO.out.1 HMO.out.2)
    rw [← hW, ← hTZ1]
    have BR := Lib.hid (BR.out.later st)
    have LO := Lib.hid (below_later LO.out st)
    have HBS := Lib.hid (below_later HBS.out st)
    clear hW hTZ1 st HMO
    obtain ⟨a0, a1, al⟩ := BZ.out.k.two
    obtain ⟨b0, b1, bl⟩ := BR.out.k.two
    go_wp2_with fail
    refine (same7_yes _ _ _ _ (bof (rng C x0 x2)) ((rng C x0 x2).map (·.2)) _ BZ.out.b.seg BZ.out.l.seg BR.out.b.seg BR.out.l.seg).mono ?_
    rintro e wH ⟨rfl, lH⟩
    have LO := Lib.hid (below_later LO.out lH)
    clear lH a0 a1 al b0 b1 bl
    go_wp2_with fail
    go_ret
    exact ⟨rfl, LO.out⟩
end Go.Proofs.Ytjfnhjmdgfkgnaa

