import Derived.Test.YtlhigfphfbmbjaaZB
import Derived.Test.YtlhigfphfbmbjaaZC
import Derived.Test.YtlhigfphfbmbjaaZD
import Derived.Test.YtlhigfphfbmbjaaW2
import Derived.Test.YtlhigfphfbmbjaaN12
import Derived.Test.YtlhigfphfbmbjaaRngV
import Derived.Laws.OwnMore
/- headsOf: the heads of tiers. -/
namespace Go.Proofs.Kit
open Go.RowKit
/-- These are the whole rows of these tiers, where they are not empty. -/
structure Ful (L : List Tr) (P : Nat → Bool → Prop) (xs : List Nd) : Prop where
  row : ∀ x ∈ xs, P x.tier x.adds ∧ x.row = rowAt L x.tier x.adds
  pos : ∀ x ∈ xs, 0 < x.row.length
  key : ∀ x ∈ xs, ∀ y ∈ xs, x.tier = y.tier → x.adds = y.adds → x = y
  has : ∀ t ad, P t ad → rowAt L t ad ≠ [] → ∃ x ∈ xs, x.tier = t ∧ x.adds = ad
theorem Ful.nil (L : List Tr) {P : Nat → Bool → Prop} (h : ∀ t ad, ¬ P t ad) : Ful L P [] :=
  ⟨fun x hx => by simp at hx, fun x hx => by simp at hx, fun x hx => by simp at hx, fun t ad k => (h t ad k).elim⟩
theorem Ful.add {L : List Tr} {P P' : Nat → Bool → Prop} {xs ys : List Nd} {x : Nd} (h : Ful L P xs) (hp : ys.Perm (x :: xs)) (hn : ¬ P x.tier x.adds) (hr : x.row = rowAt L x.tier x.adds) (h0 : 0 < x.row.length)
    (h1 : ∀ t ad, P' t ad ↔ P t ad ∨ (t = x.tier ∧ ad = x.adds)) : Ful L P' ys where
  row y hy := by
    rcases List.mem_cons.1 (hp.mem_iff.1 hy) with e | e
    · rw [e]; exact ⟨(h1 _ _).2 (.inr ⟨rfl, rfl⟩), hr⟩
    · exact ⟨(h1 _ _).2 (.inl (h.row y e).1), (h.row y e).2⟩
  pos y hy := by
    rcases List.mem_cons.1 (hp.mem_iff.1 hy) with e | e
    · rw [e]; exact h0
    · exact h.pos y e
  key y hy z hz f1 f2 := by
    rcases List.mem_cons.1 (hp.mem_iff.1 hy) with ey | ey <;> rcases List.mem_cons.1 (hp.mem_iff.1 hz) with ez | ez
    · rw [ey, ez]
    · exact (hn (by rw [← ey, f1, f2]; exact (h.row z ez).1)).elim
    · exact (hn (by rw [← ez, ← f1, ← f2]; exact (h.row y ey).1)).elim
    · exact h.key y ey z ez f1 f2
  has t ad k hne := by
    rcases (h1 t ad).1 k with k | ⟨rfl, rfl⟩
    · obtain ⟨y, hy, e⟩ := h.has t ad k hne
      exact ⟨y, hp.mem_iff.2 (by simp [hy]), e⟩
    · exact ⟨x, hp.mem_iff.2 (by simp), rfl, rfl⟩
theorem Ful.skip {L : List Tr} {P P' : Nat → Bool → Prop} {xs : List Nd} {t : Nat} {ad : Bool} (h : Ful L P xs) (hr : rowAt L t ad = []) (h1 : ∀ s b, P' s b ↔ P s b ∨ (s = t ∧ b = ad)) : Ful L P' xs where
  row y hy := ⟨(h1 _ _).2 (.inl (h.row y hy).1), (h.row y hy).2⟩
  pos := h.pos
  key := h.key
  has s b k hne := by
    rcases (h1 s b).1 k with k | ⟨rfl, rfl⟩
    · exact h.has s b k hne
    · exact (hne hr).elim
theorem Ful.inv {L : List Tr} {xs : List Nd} (h : Ful L (fun t _ => t < L.length) xs) : Inv9 L (fun _ => true) xs where
  key := h.key
  suf x hx := ⟨[], by rw [← (h.row x hx).2]; rfl, fun q hq => by simp at hq⟩
  pos := h.pos
  miss t ad hm q hq := by
    obtain ⟨ht, _⟩ := rowAt_mem hq
    obtain ⟨x, hx, e1, e2⟩ := h.has t ad ht (fun e => by rw [e] at hq; simp at hq)
    exact (hm x hx e1 e2).elim
theorem Ful.next {L : List Tr} {P P' : Nat → Bool → Prop} {xs ys : List Nd} {t : Nat} {ad : Bool} {l : List Pr} (h : Ful L P xs) (hn : ¬ P t ad) (hl : l = rowAt L t ad) (h1 : ∀ s b, P' s b ↔ P s b ∨ (s = t ∧ b = ad)) (k1 : l = [] → ys = xs) (k2 : l ≠ [] → ∃ x : Nd, x.tier = t ∧ x.adds = ad ∧ x.row = l ∧ ys.Perm (x :: xs)) : Ful L P' ys := by
  by_cases k : l = []
  · rw [k1 k]
    exact h.skip (hl ▸ k) h1
  · obtain ⟨x, rfl, rfl, e, hp⟩ := k2 k
    exact h.add hp hn (e.trans hl) (by rw [e]; exact List.length_pos_iff.2 k) h1
theorem rowAt_eq {L : List Tr} {k : Nat} (hk : k < L.length) : L[k].1 = rowAt L k true ∧ L[k].2 = rowAt L k false := by
  unfold rowAt
  rw [List.getElem?_eq_getElem hk]
  exact ⟨rfl, rfl⟩
end Go.Proofs.Kit
namespace Go.Proofs.Ytlhigfphfbmbjaa
open Go.RowKit Go.Proofs.Kit Go.Shelf
set_option maxRecDepth 100000 in
set_option maxHeartbeats 1000000 in
theorem vcopyOf_any (v : Value) (l : List Pr) (w : World) (hs : SegP w v l) (hl : l.length ≤ 1000000000) :
    Calls Try.prog 74 #[v] w fun e w' => e = .returned (.slice (some ⟨w.heap.size, 0, none⟩) l.length l.length) ∧ OwnP 53 w.heap.size w' (.slice (some ⟨w.heap.size, 0, none⟩) l.length l.length) l ∧ w.heap.size < w'.heap.size ∧ Below w.heap.size w w' := by
  obtain ⟨i0, hi, hz0, hz1, hz2⟩ := infoP
  obtain ⟨o, c, rfl, hc, hm, _⟩ := hs.shape
  have HS := Lib.hid hs
  obtain ⟨n, hn⟩ : ∃ n, n = l.length := ⟨_, rfl⟩
  rw [← hn] at HS hl ⊢
  have HN := Lib.hid hn
  clear hn hs hc
  go_enter Try.func74, Try.ntmps74
  go_wp2_with (refine wpList_make_full _ rfl _ _ _ rfl w.heap.size 53 i0 (.agg #[.int .u64 0, .int .u64 0]) 2 Try.underlying22 hi hz0 hz1 .i64 .i64 _ _ n rfl rfl rfl rfl ?ma ?mb ?mc ?_)
  case ma => rw [hz2]; omega
  case mb => unfold maxLen; omega
  case mc => exact Nat.le_refl _
  intro w1 ho1 hg1
  have hb1 : Below w.heap.size w w1 := (Below.refl _ _).grown hg1 (Nat.le_refl _) (fun _ h => by cases h)
  have hO : OwnP 53 w.heap.size w1 (.slice (some ⟨w.heap.size, 0, none⟩) n n) (zeros n) := by
    have e : (zeros n).length = n := by simp [zeros]
    refine ⟨by rw [e]; omega, ?_⟩
    rw [e, ← madeCells_zeros]
    exact ho1
  have HO := Lib.hid hO
  have HS1 := Lib.hid (HS.out.later hb1)
  clear ho1 hO hg1
  go_wp2_with (with_reducible refine wpList_copyP rfl _ _ 22 22 rfl 53 Try.underlying22 sizeP w.heap.size _ _ HO.out rfl _ _ HS1.out rfl ?ca ?_)
  case ca => rw [← HN.out]; simp [zeros]
  rw [← HN.out]
  intro w2 hO2 hb2
  go_wp2
  go_ret
  refine ⟨rfl, hO2, ?_, hb1.trans hb2⟩
  rcases hO2.2.2 with ⟨e, _⟩ | ⟨g, cap, cur, e, _, hk, _⟩
  · cases e
  · injection e with e _ _
    injection e with e
    injection e with e
    subst e
    exact Blk.lt hk
/-- A row that was copied, under a new head. -/
theorem NdR.new {rlo hi : Nat} {w : World} {b rb n t : Nat} {ad : Bool} {l : List Pr} (hn : n = l.length) (ho : OwnP 53 rb w (.slice (some ⟨rb, 0, none⟩) n n) l) (h1 : rlo ≤ rb) (h2 : rb < hi) (h0 : 0 < n) (hs : n ≤ 1000000000) : NdR rlo hi w ⟨b, rb, 0, n, l, t, ad⟩ := by
  subst hn
  obtain ⟨g, cap, cur, e, k1, k2, k3, k4, k5, k6⟩ := ho.blk h0
  injection e with e1 e2 e3
  injection e1 with e1
  injection e1 with e1 _ _
  subst e1 e3
  refine ⟨h1, h2, ⟨_, k5⟩, fun i hi => ?_, h0, Nat.le_refl _, by simp only; omega⟩
  obtain ⟨g', f', e, _, hc⟩ := ho.seg.has hi
  injection e with e
  injection e with e1 e2 _
  subst e1 e2
  exact hc i hi
section
variable {tv : TypeId} {rlo lo hi : Nat} {w w' : World} {a c : Nat} {o : Option Addr} {xs : List Nd}
theorem VW.widen (h : VW tv rlo lo hi w a c o xs) {hi' : Nat} (h1 : hi ≤ hi') (h2 : hi' ≤ w.heap.size) : VW tv rlo lo hi' w a c o xs where
  tne := h.tne
  blk := h.blk
  alo := h.alo
  ahi := Nat.lt_of_lt_of_le h.ahi h1
  row := h.row
  qhi g e := Nat.lt_of_lt_of_le (h.qhi g e) h1
  nr x hx := ⟨(h.nr x hx).rlo, Nat.lt_of_lt_of_le (h.nr x hx).rhi h1, (h.nr x hx).blk, (h.nr x hx).cells, (h.nr x hx).pos, (h.nr x hx).le, (h.nr x hx).max⟩
  nm x hx := ⟨(h.nm x hx).lo, Nat.lt_of_lt_of_le (h.nm x hx).hi h1, (h.nm x hx).blk⟩
  dif := h.dif
  top := h2
  low := h.low
  few := h.few
/-- A new head is put, or nothing, where its row is empty. -/
theorem put_all (h : VW tv lo lo hi w a c o xs) (hp : Hp xs) (b rb n t : Nat) (ad : Bool) (l : List Pr) (hn : n = l.length) (ho : OwnP 53 rb w (.slice (some ⟨rb, 0, none⟩) n n) l) (hs : n ≤ 1000000000) (hr : hi ≤ rb) (hrl : rb < w.heap.size) (hb : Blk w b #[.slice (some ⟨rb, 0, none⟩) n n, .int .i64 (t : Int), .bool ad] 111) (hbh : hi ≤ b) (hf : xs.length + 1 ≤ 1000) :
    Calls Try.prog 91 #[ptr9 a, ptr9 b] w fun e w' => e = .returned (.tuple #[]) ∧ ∃ c' o' ys, VW tv lo lo w'.heap.size w' a c' o' ys ∧ Hp ys ∧ ButR (Fq a o) w w' ∧ (l = [] → ys = xs) ∧ (l ≠ [] → ys.Perm (⟨b, rb, 0, n, l, t, ad⟩ :: xs)) := by
  have h1 := h.widen h.top (Nat.le_refl _)
  by_cases hz : l = []
  · subst hz
    obtain rfl : n = 0 := by simpa using hn
    refine (put_none (a := a) b _ _ _ _ _ hb).mono ?_
    rintro e w' ⟨rfl, rfl⟩
    exact ⟨rfl, c, o, xs, h1, hp, ButR.refl _ _, fun _ => rfl, fun k => (k rfl).elim⟩
  · have h0 : 0 < n := by rw [hn]; exact List.length_pos_iff.2 hz
    have hlh : lo ≤ hi := Nat.le_of_lt (Nat.lt_of_le_of_lt h.alo h.ahi)
    have hd : b ∉ xs.map Nd.b := fun hm => by
      obtain ⟨y, hy, e⟩ := List.mem_map.1 hm
      have := (h.nm y hy).hi
      omega
    refine (put_any h1 hp ⟨b, rb, 0, n, l, t, ad⟩ (NdR.new hn ho (Nat.le_trans hlh hr) hrl h0 hs) ⟨Nat.le_trans hlh hbh, hb.lt, by subst hn; exact hb⟩ hd hf).mono ?_
    rintro e w' ⟨rfl, hi', c', o', ys, hP⟩
    have htop : hi' ≤ w'.heap.size := hP.v.top
    exact ⟨rfl, c', o', ys, hP.v.widen htop (Nat.le_refl _), hP.hp, hP.fr, fun k => (hz k).elim, fun _ => hP.perm⟩
end
theorem put_new {tv : TypeId} {lo hi : Nat} {w : World} {a c : Nat} {o : Option Addr} {xs : List Nd} (h : VW tv lo lo hi w a c o xs) (hp : Hp xs) (rb n t : Nat) (ad : Bool) (l : List Pr) (hn : n = l.length) (ho : OwnP 53 rb w (.slice (some ⟨rb, 0, none⟩) n n) l) (hs : n ≤ 1000000000) (hr : hi ≤ rb) (hrl : rb < w.heap.size) (hf : xs.length + 1 ≤ 1000) :
    Calls Try.prog 91 #[ptr9 a, ptr9 w.heap.size] (w.alloc (.cells #[.slice (some ⟨rb, 0, none⟩) n n, .int .i64 (t : Int), .bool ad] 111)) fun e w' => e = .returned (.tuple #[]) ∧ ∃ c' o' ys, VW tv lo lo w'.heap.size w' a c' o' ys ∧ Hp ys ∧ ButR (Fq a o) w w' ∧ ys.length ≤ xs.length + 1 ∧ (l = [] → ys = xs) ∧ (l ≠ [] → ∃ x : Nd, x.tier = t ∧ x.adds = ad ∧ x.row = l ∧ ys.Perm (x :: xs)) := by
  have hg := Gr.alloc w (.cells #[.slice (some ⟨rb, 0, none⟩) n n, .int .i64 (t : Int), .bool ad] 111)
  refine (put_all (h.gr hg) hp w.heap.size rb n t ad l hn (ho.later hg.below) hs hr (Nat.lt_of_lt_of_le hrl hg.below.size) (Blk.new w _ _) h.top hf).mono ?_
  rintro e w' ⟨rfl, c', o', ys, h1, h2, h3, h4, h5⟩
  refine ⟨rfl, c', o', ys, h1, h2, (ButR.of_below hg.below).trans h3, ?_, h4, fun k => ⟨_, rfl, rfl, rfl, h5 k⟩⟩
  by_cases k : l = []
  · rw [h4 k]; omega
  · have := (h5 k).length_eq
    simp at this
    omega
set_option maxRecDepth 100000 in
set_option maxHeartbeats 8000000 in
theorem headsOf_any (v : Value) (L : List Tr) (w : World) (h : SegT w v L) (hg : goodT L) :
    Calls Try.prog 65 #[v] w fun e w' => ∃ c o xs a, e = .returned (.agg #[.slice o xs.length c]) ∧ VW 97 (w.heap.size + 1) (w.heap.size + 1) w'.heap.size w' a c o xs ∧ Hp xs ∧ Inv9 L (fun _ => true) xs ∧ Below w.heap.size w w' := by
  obtain ⟨o, c, rfl, hc, hm⟩ := h.shape
  obtain ⟨n, hn⟩ : ∃ n, n = L.length := ⟨_, rfl⟩
  rw [← hn] at h hc ⊢
  have hl : n ≤ 24 := by rw [hn]; exact hg.2
  have HL := Lib.hid hn.symm
  have HA := Lib.hid h
  have HS := Lib.hid hg
  clear h hn hg
  go_enter Try.func65, Try.ntmps65
  go_wp2
  go_loopw [8] (fun s8 wr => ∃ (k : Nat) (c' : Nat) (o' : Option Addr) (xs : List Nd), k ≤ n ∧ s8 = .int .i64 (k : Int) ∧ Hid (VW 97 (w.heap.size + 1) (w.heap.size + 1) wr.heap.size wr (w.heap.size + 1) c' o' xs ∧ Hp xs ∧ Ful L (fun t _ => t < k) xs ∧ xs.length ≤ 2 * k) ∧ Hid (Blk wr w.heap.size #[.slice none 0 0] 97 ∧ Below w.heap.size w wr)) (fun s8 _ => n - (intOf s8).toNat)
  case atStart =>
    refine ⟨0, 0, none, [], Nat.zero_le _, rfl, Lib.hid ⟨?_, Hp.nil, Ful.nil L (fun t ad => Nat.not_lt_zero _), Nat.le_refl _⟩, Lib.hid ⟨(Blk.new w _ _).alloc _, ((Gr.alloc w _).trans (Gr.alloc _ _)).below⟩⟩
    have hk := Blk.new (w.alloc (.cells #[.slice none 0 0] 97)) #[.slice none 0 0] 97
    exact { tne := by decide, blk := by simpa using hk, alo := by omega, ahi := by simp, row := Ow.nil _ _ _, qhi := fun g e => (by cases e), nr := fun x hx => (by simp at hx), nm := fun x hx => (by simp at hx), dif := by simp, top := Nat.le_refl _, low := Nat.le_refl _, few := by simp }
  case round =>
    obtain ⟨k, c', o', xs, hk, rfl, HV, HB⟩ := hrel
    by_cases hlt : k < n
    · have hkl : k < L.length := by have := HL.out; omega
      obtain ⟨b, f, x, rfl, _, lb0, d0, d1, hx⟩ := HA.out.at hkl
      obtain ⟨ao, an, ac, bo, bn, bc⟩ := x
      simp only at d0 d1
      have d0 := (HB.out.2.cell (p := ⟨b, f + k * 2, none⟩) lb0).trans d0
      have d1 := (HB.out.2.cell (p := ⟨b, f + k * 2 + 1, none⟩) lb0).trans d1
      have lb1 := Nat.lt_of_lt_of_le lb0 HB.out.2.size
      have h1 := (HS.out.1 _ (List.getElem_mem hkl)).1.1.2
      have h2 := (HS.out.1 _ (List.getElem_mem hkl)).1.2.2
      have gA := (Gr.alloc wr (.cells #[.slice ao an ac, .slice bo bn bc] 24)).below
      have HFA := Lib.hid (fun W (hb : Below w.heap.size w W) => vcopyOf_any _ L[k].1 W (hx.a.later hb) (by omega))
      have HFB := Lib.hid (fun W (hb : Below w.heap.size w W) => vcopyOf_any _ L[k].2 W (hx.b.later hb) (by omega))
      have HG := Lib.hid gA
      have HLOW := Lib.hid (below_later HB.out.2 gA)
      have HT := Lib.hid (Blk.new wr #[.slice ao an ac, .slice bo bn bc] 24)
      have HNB := Lib.hid (And.intro h1 h2)
      have HRA := Lib.hid (rowAt_eq hkl)
      have hwz := HB.out.1.lt
      clear hx h1 h2 gA
      go_wp2_with fail
      refine (HFA.out _ HLOW.out).mono ?_
      rintro e w2 ⟨rfl, ho1, s2, b2⟩
      have L2 := Lib.hid (below_later HG.out b2)
      have V2 := Lib.hid (HV.out.1.later L2.out)
      have HP2 := Lib.hid (put_new V2.out HV.out.2.1 (wr.heap.size + 1) L[k].1.length k true L[k].1 rfl (by simpa using ho1) (by have := HNB.out.1; omega) (by omega) (by simpa using s2) (by have := HV.out.2.2.2; omega))
      have T2 := Lib.hid (HT.out.later b2)
      have LOW2 := Lib.hid (below_later HB.out.2 L2.out)
      have Z2 := Lib.hid (HB.out.1.later L2.out)
      clear ho1 s2 b2 HT HFA HLOW
      go_wp2_with fail
      refine (HP2.out).mono ?_
      rintro e w4 ⟨rfl, c4, o4, ys, v4, hp4, b4, len4, e4, p4⟩
      have hlo4 := b4.below (B := w.heap.size) (fun j hj => by have := (V2.out.fq j hj).1; omega) (by have := L2.out.size; omega)
      have LOW4 := Lib.hid (LOW2.out.trans hlo4)
      have t4 := b4.blk T2.out (fun q => by have := (V2.out.fq _ q).2; omega)
      have z4 := Lib.hid (b4.blk Z2.out (fun q => by have := (V2.out.fq _ q).1; omega))
      have F4 := Lib.hid (HV.out.2.2.1.next (P' := fun t ad => t < k ∨ (t = k ∧ ad = true)) (by omega) HRA.out.1 (fun s bb => Iff.rfl) e4 p4)
      have V4 := Lib.hid (And.intro v4 (And.intro hp4 len4))
      have dd : w4.cell? ⟨wr.heap.size, 1, none⟩ = some (.slice bo bn bc) := (t4.cell 1).trans rfl
      have ll := t4.lt
      clear v4 hp4 b4 len4 e4 p4 hlo4 t4 HP2 T2 Z2 LOW2 V2 L2
      go_wp2_with fail
      refine (HFB.out _ LOW4.out).mono ?_
      rintro e w5 ⟨rfl, ho5, s5, b5⟩
      have V5 := Lib.hid (V4.out.1.later b5)
      have HP5 := Lib.hid (put_new V5.out V4.out.2.1 w4.heap.size L[k].2.length k false L[k].2 rfl ho5 (by have := HNB.out.2; omega) (Nat.le_refl _) s5 (by have := HV.out.2.2.2; have := V4.out.2.2; omega))
      have LOW5 := Lib.hid (below_later LOW4.out b5)
      have Z5 := Lib.hid (z4.out.later b5)
      clear ho5 s5 b5 HFB dd ll
      go_wp2_with fail
      refine (HP5.out).mono ?_
      rintro e w6 ⟨rfl, c6, o6, zs, v6, hp6, b6, len6, e6, p6⟩
      have hlo6 := b6.below (B := w.heap.size) (fun j hj => by have := (V5.out.fq j hj).1; omega) (by have := LOW5.out.size; omega)
      have z6 := b6.blk Z5.out (fun q => by have := (V5.out.fq _ q).1; omega)
      have F6 := F4.out.next (P' := fun t _ => t < k + 1) (fun h => h.elim (fun h => by omega) (fun h => by cases h.2)) HRA.out.2 (fun s bb => by
        show s < k + 1 ↔ (s < k ∨ (s = k ∧ bb = true)) ∨ (s = k ∧ bb = false)
        cases bb <;> simp <;> omega) e6 p6
      have hlen : zs.length ≤ 2 * (k + 1) := by
        have h1 : xs.length ≤ 2 * k := HV.out.2.2.2
        have h2 : ys.length ≤ xs.length + 1 := V4.out.2.2
        omega
      have V6 := Lib.hid (And.intro v6 (And.intro hp6 (And.intro F6 hlen)))
      have B6 := Lib.hid (And.intro z6 (LOW5.out.trans hlo6))
      clear v6 hp6 b6 len6 e6 p6 hlo6 z6 F6
      go_wp2
      go_roundw
      case rel => exact ⟨k + 1, c6, o6, zs, by omega, by go_num, V6, B6⟩
      case measure => simp [intOf]; omega
    · obtain rfl : k = n := by omega
      have e0 := HV.out.1.cell
      have e1 : wr.cell? ⟨w.heap.size, 0, none⟩ = some (.slice none 0 0) := (HB.out.1.cell 0).trans rfl
      have f1 := HB.out.1.frozen 0
      have l1 := HB.out.1.lt
      go_wp2
      have hk := HB.out.1.set 0 (.slice o' xs.length c')
      have hO : ∀ j, w.heap.size + 1 ≤ j → (wr.setCell ⟨w.heap.size, 0, none⟩ (.slice o' xs.length c')).heap[j]? = wr.heap[j]? := fun j hj => Below.heap_setCell _ _ _ j (by show j ≠ w.heap.size; omega)
      have r0 := hk.cell 0
      refine bodyPost_ret (v := .agg #[.slice o' xs.length c']) (by simp at r0; simp [results, Try.results65, go_sem, r0]) rfl ⟨c', o', xs, w.heap.size + 1, rfl, ?_, HV.out.2.1, Ful.inv (by rw [HL.out]; exact HV.out.2.2.1), Below.set9 HB.out.2 (Nat.le_refl _)⟩
      have := HV.out.1.keep (fun j h1 _ => hO j h1) (by simp)
      simpa using this
end Go.Proofs.Ytlhigfphfbmbjaa


/- View: At, Next, Seek. -/
namespace Go.Proofs.Kit
open Go.RowKit
def hd9 : List Pr → Value
  | [] => .tuple #[.agg #[.int .u64 0, .int .u64 0], .bool false]
  | p :: _ => .tuple #[.agg #[.int .u64 p.1, .int .u64 p.2], .bool true]
theorem At9.run {L : List Tr} {R : List Pr} {xs : List Nd} (h : At9 L R xs) : Run R := by
  obtain ⟨G, _, _, _, rfl⟩ := h.ex
  exact (those_run L 1).sub List.filter_sublist
/-- Behind the first one. -/
theorem run_rest {p : Pr} {r : List Pr} (h : Run (p :: r)) : (p :: r).filter (fun q => decide (0 < cf2 q p)) = r := by
  rw [List.filter_cons, if_neg (by rw [decide_eq_true_eq, cf2_pos]; exact lt2_irrefl p)]
  refine List.filter_eq_self.2 fun q hq => ?_
  rw [decide_eq_true_eq, cf2_pos]
  exact h.head q hq
end Go.Proofs.Kit
namespace Go.Proofs.Ytlhigfphfbmbjaa
open Go.RowKit Go.Proofs.Kit Go.Shelf
/-- Heads of tiers L in the box a, which stand where R is left. -/
def VS (tv : TypeId) (rlo lo hi : Nat) (w : World) (a : Nat) (L : List Tr) (R : List Pr) : Prop := ∃ c o xs, VW tv rlo lo hi w a c o xs ∧ At9 L R xs
section
variable {tv : TypeId} {rlo lo hi : Nat} {w w' : World} {a : Nat} {L : List Tr} {R : List Pr}
theorem VS.keep (h : VS tv rlo lo hi w a L R) (hs : Same9 rlo hi w w') : VS tv rlo lo hi w' a L R := by
  obtain ⟨c, o, xs, h1, h2⟩ := h
  exact ⟨c, o, xs, h1.keep hs.2 hs.1, h2⟩
theorem VS.top (h : VS tv rlo lo hi w a L R) : hi ≤ w.heap.size := by
  obtain ⟨c, o, xs, h1, _⟩ := h
  exact h1.top
theorem VS.box (h : VS tv rlo lo hi w a L R) : rlo ≤ lo ∧ lo ≤ a ∧ a < hi ∧ ∃ v, Blk w a #[v] tv := by
  obtain ⟨c, o, xs, h1, _⟩ := h
  exact ⟨h1.low, h1.alo, h1.ahi, _, h1.blk⟩
theorem VS.later (h : VS tv rlo lo hi w a L R) (hb : Below w.heap.size w w') : VS tv rlo lo hi w' a L R := h.keep (Same9.below hb h.top)
theorem VS.gr (h : VS tv rlo lo hi w a L R) (hb : Gr w w') : VS tv rlo lo hi w' a L R := h.later hb.below
theorem VS.run (h : VS tv rlo lo hi w a L R) : Run R := by
  obtain ⟨c, o, xs, _, h2⟩ := h
  exact h2.run
theorem vfirst_any (h : VS tv rlo lo hi w a L R) : Calls Try.prog 69 #[ptr9 a] w fun e w' => e = .returned (hd9 R) ∧ Gr w w' := by
  obtain ⟨c, o, xs, h1, h2⟩ := h
  cases xs with
  | nil =>
    rw [h2.nil]
    exact first_none h1
  | cons x tl =>
    obtain ⟨r, hr⟩ := h2.cons (by simp)
    rw [hr]
    exact first_some h1 (by simp)
theorem vgoTo_any {fid : Nat} {m : Pr} {fp : Pr → Bool} (hf : Far fid m fp) (h : VS tv rlo lo hi w a L R) : Calls Try.prog 66 #[ptr9 a, fv9 fid m] w fun e w' => e = .returned (.tuple #[]) ∧ VS tv rlo lo hi w' a L (R.filter fp) ∧ Mid lo hi w w' := by
  obtain ⟨c, o, xs, h1, h2⟩ := h
  obtain ⟨G, hu, hi, ha, rfl⟩ := h2.ex
  refine (goTo_any hf h2.good hu h1 h2.hp hi ha).mono ?_
  rintro e w' ⟨rfl, c', o', ys, k1, k2, k3⟩
  refine ⟨rfl, ⟨c', o', ys, k1, ?_⟩, k3⟩
  rw [List.filter_filter]
  simpa only [Bool.and_comm] using k2
set_option maxRecDepth 100000 in
set_option maxHeartbeats 2000000 in
theorem vAt_any (h : VS tv rlo lo hi w a L R) : Calls Try.prog 39 #[ptr9 a] w fun e w' => e = .returned (hd9 R) ∧ Below w.heap.size w w' := by
  have g1 := Gr.alloc w (.cells #[.int .u64 0, .int .u64 0] 53)
  have HF := Lib.hid (vfirst_any (h.gr g1))
  have HB := Lib.hid (Blk.new w #[.int .u64 0, .int .u64 0] 53)
  have HG := Lib.hid g1
  clear h g1
  go_enter Try.func39, Try.ntmps39
  cases R with
  | nil =>
    simp only [hd9] at HF ⊢
    go_wp2_with (go_at_call 69; refine (HF.out).mono ?_; rintro e w1 ⟨rfl, b1⟩; have k1 := HB.out.later b1.below; have d0 : w1.cell? ⟨w.heap.size, 0, none⟩ = some (.int .u64 0) := (k1.cell 0).trans rfl; have d1 : w1.cell? ⟨w.heap.size, 1, none⟩ = some (.int .u64 0) := (k1.cell 1).trans rfl; have f0 := k1.frozen 0; have f1 := k1.frozen 1; have l1 := k1.lt; have K1 := Lib.hid k1; have B1 := Lib.hid (HG.out.trans b1); clear b1 k1)
    have kf := (K1.out.set 0 (.int .u64 0)).set 1 (.int .u64 0)
    have hL := Below.set9 (Below.set9 B1.out.below (p := ⟨w.heap.size, 0, none⟩) (u := .int .u64 0) (Nat.le_refl _)) (p := ⟨w.heap.size, 1, none⟩) (u := .int .u64 0) (Nat.le_refl _)
    generalize (w1.setCell ⟨w.heap.size, 0, none⟩ (.int .u64 0)).setCell ⟨w.heap.size, 1, none⟩ (.int .u64 0) = Wf at kf hL ⊢
    have r0 : Wf.cell? ⟨w.heap.size, 0, none⟩ = some (.int .u64 0) := (kf.cell 0).trans rfl
    have r1 : Wf.cell? ⟨w.heap.size, 1, none⟩ = some (.int .u64 0) := (kf.cell 1).trans rfl
    exact bodyPost_ret (v := .tuple #[.agg #[.int .u64 0, .int .u64 0], .bool false]) (by simp [results, Try.results39, go_sem, r0, r1]) rfl ⟨rfl, hL⟩
  | cons p r =>
    obtain ⟨x, y⟩ := p
    simp only [hd9] at HF ⊢
    go_wp2_with (go_at_call 69; refine (HF.out).mono ?_; rintro e w1 ⟨rfl, b1⟩; have k1 := HB.out.later b1.below; have d0 : w1.cell? ⟨w.heap.size, 0, none⟩ = some (.int .u64 0) := (k1.cell 0).trans rfl; have d1 : w1.cell? ⟨w.heap.size, 1, none⟩ = some (.int .u64 0) := (k1.cell 1).trans rfl; have f0 := k1.frozen 0; have f1 := k1.frozen 1; have l1 := k1.lt; have K1 := Lib.hid k1; have B1 := Lib.hid (HG.out.trans b1); clear b1 k1)
    have kf := (K1.out.set 0 (.int .u64 x)).set 1 (.int .u64 y)
    have hL := Below.set9 (Below.set9 B1.out.below (p := ⟨w.heap.size, 0, none⟩) (u := .int .u64 x) (Nat.le_refl _)) (p := ⟨w.heap.size, 1, none⟩) (u := .int .u64 y) (Nat.le_refl _)
    generalize (w1.setCell ⟨w.heap.size, 0, none⟩ (.int .u64 x)).setCell ⟨w.heap.size, 1, none⟩ (.int .u64 y) = Wf at kf hL ⊢
    have r0 : Wf.cell? ⟨w.heap.size, 0, none⟩ = some (.int .u64 x) := (kf.cell 0).trans rfl
    have r1 : Wf.cell? ⟨w.heap.size, 1, none⟩ = some (.int .u64 y) := (kf.cell 1).trans rfl
    exact bodyPost_ret (v := .tuple #[.agg #[.int .u64 x, .int .u64 y], .bool true]) (by simp [results, Try.results39, go_sem, r0, r1]) rfl ⟨rfl, hL⟩
set_option maxRecDepth 100000 in
theorem vAt_nil (w : World) : Calls Try.prog 39 #[.pointer none] w fun e w' => e = .returned (hd9 []) ∧ Below w.heap.size w w' := by
  go_enter Try.func39, Try.ntmps39
  go_wp2
  obtain ⟨r0, r1⟩ := new_pair w 0 0
  exact bodyPost_ret (v := .tuple #[.agg #[.int .u64 0, .int .u64 0], .bool false]) (by simp [results, Try.results39, go_sem, r0, r1]) rfl ⟨rfl, (Gr.alloc _ _).below⟩
set_option maxRecDepth 100000 in
set_option maxHeartbeats 2000000 in
theorem vNext_end (h : VS tv rlo lo hi w a L []) : Calls Try.prog 36 #[ptr9 a] w fun e w' => e = .returned (.int .i64 4) ∧ Below w.heap.size w w' := by
  have HF := Lib.hid (vfirst_any h)
  simp only [hd9] at HF
  clear h
  go_enter Try.func36, Try.ntmps36
  go_wp2_with (go_at_call 69; refine (HF.out).mono ?_; rintro e w1 ⟨rfl, b1⟩; have B1 := Lib.hid b1; clear b1)
  go_ret
  exact ⟨rfl, (B1.out.trans (Gr.alloc _ _)).below⟩
set_option maxRecDepth 100000 in
set_option maxHeartbeats 4000000 in
theorem vNext_any {p : Pr} {r : List Pr} (h : VS tv rlo lo hi w a L (p :: r)) : Calls Try.prog 36 #[ptr9 a] w fun e w' => e = .returned (.int .i64 0) ∧ VS tv rlo lo hi w' a L r ∧ Mid lo hi w w' := by
  have hmix := mixed
  have HF := Lib.hid (vfirst_any h)
  have hr := run_rest h.run
  have HV := Lib.hid h
  have HR := Lib.hid hr
  obtain ⟨x, y⟩ := p
  simp only [hd9] at HF
  clear h hr
  go_enter Try.func36, Try.ntmps36
  go_wp2_with (go_at_call 69; refine (HF.out).mono ?_; rintro e w1 ⟨rfl, b1⟩; have B1 := Lib.hid b1; clear b1)
  have HGO := Lib.hid (fun W (g : Gr w W) => vgoTo_any (far_passed (x, y)) (HV.out.gr g))
  have gA := Gr.alloc w1 (.cells #[.int .u64 x, .int .u64 y] 53)
  go_region_law (go_simp; go_at_call 66; (refine (HGO.out _ (B1.out.trans (gA.trans (Gr.drew _)))).mono ?_); rintro e w2 ⟨rfl, v2, m2⟩; have H2 := Lib.hid (And.intro v2 m2); clear v2 m2)
  all_goals
    go_wp2
    go_ret
    refine ⟨rfl, ?_, (Mid.of_gr (B1.out.trans (gA.trans (Gr.drew _)))).trans H2.out.2⟩
    have h2 := H2.out.1
    rwa [HR.out] at h2
set_option maxRecDepth 100000 in
theorem vNext_nil (w : World) : Calls Try.prog 36 #[.pointer none] w fun e w' => e = .returned (.int .i64 1) ∧ w = w' := by
  go_enter Try.func36, Try.ntmps36
  go_wp2
  go_ret
  exact ⟨rfl, rfl⟩
set_option maxRecDepth 100000 in
set_option maxHeartbeats 4000000 in
theorem vSeek_any (p : Pr) (h : VS tv rlo lo hi w a L R) : Calls Try.prog 38 #[ptr9 a, PV p.1 p.2] w fun e w' => e = .returned (.int .i64 0) ∧ VS tv rlo lo hi w' a L (R.filter fun q => decide (0 ≤ cf2 q p)) ∧ Mid lo hi w w' := by
  have hmix := mixed
  obtain ⟨x, y⟩ := p
  have gA := Gr.alloc w (.cells #[.int .u64 x, .int .u64 y] 53)
  have HGO := Lib.hid (fun W (g : Gr w W) => vgoTo_any (far_reached (x, y)) (h.gr g))
  clear h
  go_enter Try.func38, Try.ntmps38
  go_wp2
  go_region_law (go_simp; go_at_call 66; (refine (HGO.out _ (gA.trans (Gr.drew _))).mono ?_); rintro e w2 ⟨rfl, v2, m2⟩; have H2 := Lib.hid (And.intro v2 m2); clear v2 m2)
  all_goals
    go_wp2
    go_ret
    exact ⟨rfl, H2.out.1, (Mid.of_gr (gA.trans (Gr.drew _))).trans H2.out.2⟩
set_option maxRecDepth 100000 in
theorem vSeek_nil (p : Pr) (w : World) : Calls Try.prog 38 #[.pointer none, PV p.1 p.2] w fun e w' => e = .returned (.int .i64 1) ∧ Gr w w' := by
  obtain ⟨x, y⟩ := p
  go_enter Try.func38, Try.ntmps38
  go_wp2
  go_ret
  exact ⟨rfl, Gr.alloc _ _⟩
end
end Go.Proofs.Ytlhigfphfbmbjaa


/- heads.copied. -/
namespace Go.Proofs.Kit
open Go.RowKit
/-- The same head in another block. -/
def Nd.at (x : Nd) (b : Nat) : Nd := ⟨b, x.rb, x.off, x.cap, x.row, x.tier, x.adds⟩
theorem Nd.at_p (x : Nd) (b : Nat) : (x.at b).p = x.p := rfl
theorem nodup_at {α : Type} {l : List α} (hn : l.Nodup) {i j : Nat} (hi : i < l.length) (hj : j < l.length) (e : l[i] = l[j]) : i = j := by
  have h := List.pairwise_iff_getElem.1 hn
  rcases Nat.lt_trichotomy i j with c | c | c
  · exact (h i j hi hj c e).elim
  · exact c
  · exact (h j i hj hi c e.symm).elim
theorem At9.copy {L : List Tr} {R : List Pr} {xs ys : List Nd} (h : At9 L R xs) (hn : xs.Nodup) (hl : ys.length = xs.length) (hs : ∀ i (h1 : i < ys.length) (h2 : i < xs.length), ys[i].row = xs[i].row ∧ ys[i].tier = xs[i].tier ∧ ys[i].adds = xs[i].adds) : At9 L R ys := by
  obtain ⟨G, hu, hi, ha, hR⟩ := h.ex
  have hp : ∀ i (h1 : i < ys.length) (h2 : i < xs.length), ys[i].p = xs[i].p := fun i h1 h2 => by simp only [Nd.p, (hs i h1 h2).1]
  have hle : ∀ i j (h1 : i < ys.length) (h2 : j < ys.length), le9 (xs[i]'(by omega)) (xs[j]'(by omega)) → le9 ys[i] ys[j] := fun i j h1 h2 h => by
    unfold le9 at h ⊢
    rw [hp i h1 (by omega), hp j h2 (by omega), (hs i h1 (by omega)).2.1, (hs j h2 (by omega)).2.1]
    exact h
  have hto : ∀ y ∈ ys, ∃ i, ∃ (h1 : i < ys.length) (h2 : i < xs.length), ys[i] = y := fun y hy => by
    obtain ⟨i, h1, e⟩ := List.getElem_of_mem hy
    exact ⟨i, h1, by omega, e⟩
  refine ⟨h.good, ⟨G, hu, ⟨fun x hx y hy e1 e2 => ?_, fun y hy => ?_, fun y hy => ?_, fun t ad hm => ?_⟩, fun y hy q hq => ?_, hR⟩, fun i h1 h0 => ?_, fun h0 => ?_⟩
  · obtain ⟨i, h1, h2, rfl⟩ := hto x hx
    obtain ⟨j, h3, h4, rfl⟩ := hto y hy
    rw [(hs i h1 h2).2.1, (hs j h3 h4).2.1] at e1
    rw [(hs i h1 h2).2.2, (hs j h3 h4).2.2] at e2
    have := hi.key _ (List.getElem_mem h2) _ (List.getElem_mem h4) e1 e2
    have hij : i = j := nodup_at hn h2 h4 this
    subst hij
    rfl
  · obtain ⟨i, h1, h2, rfl⟩ := hto y hy
    rw [(hs i h1 h2).1, (hs i h1 h2).2.1, (hs i h1 h2).2.2]
    exact hi.suf _ (List.getElem_mem h2)
  · obtain ⟨i, h1, h2, rfl⟩ := hto y hy
    rw [(hs i h1 h2).1]
    exact hi.pos _ (List.getElem_mem h2)
  · refine hi.miss t ad fun x hx e1 e2 => ?_
    obtain ⟨i, h2, rfl⟩ := List.getElem_of_mem hx
    have h1 : i < ys.length := by omega
    exact hm ys[i] (List.getElem_mem h1) ((hs i h1 h2).2.1.trans e1) ((hs i h1 h2).2.2.trans e2)
  · obtain ⟨i, h1, h2, rfl⟩ := hto y hy
    rw [(hs i h1 h2).1] at hq
    exact ha _ (List.getElem_mem h2) q hq
  · exact hle _ _ (by omega) h1 (h.hp i (by omega) h0)
  · rw [(hs 0 h0 (by omega)).2.2]
    exact h.adds (by omega)
theorem Ow.set9 {t : TypeId} {B g n c i : Nat} {w : World} {l : List Value} (h : Ow t B w (.slice (some ⟨g, 0, none⟩) n c) l) (hi : i < l.length) (x : Value) : w.cell? ⟨g, i, none⟩ = some l[i] ∧ w.frozen? ⟨g, i, none⟩ = false ∧ g < w.heap.size ∧ Ow t B (w.setCell ⟨g, i, none⟩ x) (.slice (some ⟨g, 0, none⟩) n c) (l.set i x) := by
  obtain ⟨_, _, eg, _, _, _, lg, d4, f4, o4⟩ := h.set hi x
  injection eg with eg _ _
  injection eg with eg
  injection eg with eg
  subst eg
  exact ⟨d4, f4, lg, o4⟩
theorem set_pad {ys : List Value} {k n : Nat} (hl : ys.length = k) (hk : k < n) (u z : Value) : (ys ++ List.replicate (n - k) z).set k u = (ys ++ [u]) ++ List.replicate (n - (k + 1)) z := by
  rw [List.set_append, if_neg (by omega), hl, Nat.sub_self, show n - k = (n - (k + 1)) + 1 by omega, List.replicate_succ, List.set_cons_zero, List.append_assoc]
  rfl
end Go.Proofs.Kit
namespace Go.Proofs.Ytlhigfphfbmbjaa
open Go.RowKit Go.Proofs.Kit Go.Shelf
/-- A store into a box that is none of these blocks. -/
theorem VW.aside {tv : TypeId} {rlo lo hi : Nat} {w : World} {a c : Nat} {o : Option Addr} {xs : List Nd} (h : VW tv rlo lo hi w a c o xs) {b : Nat} {vs : Array Value} {tb : TypeId} (hb : Blk w b vs tb) (h1 : tb ≠ 53 ∧ tb ≠ 111 ∧ tb ≠ 109) (h2 : b ≠ a) (j : Nat) (v : Value) : VW tv rlo lo hi (w.setCell ⟨b, j, none⟩ v) a c o xs := by
  have hO : ∀ k, k ≠ b → (w.setCell ⟨b, j, none⟩ v).heap[k]? = w.heap[k]? := fun k hk => Below.heap_setCell _ _ _ k hk
  have hT : ∀ (k : Nat) us t, Blk w k us t → tb ≠ t → k ≠ b := fun k us t hk ht e => by
    subst e
    have e := (show w.heap[k]? = _ from hb).symm.trans hk
    injection e with e
    injection e with _ e _
    exact ht e
  refine ⟨h.tne, (hO _ (Ne.symm h2)).trans h.blk, h.alo, h.ahi, h.row.same fun g hg => hO g (fun e => h.row.ne_blk hb (Ne.symm h1.2.2) (by rw [hg, e])), h.qhi, fun x hx => ?_, fun x hx => (h.nm x hx).keep (hO _ (hT _ _ _ (h.nm x hx).blk h1.2.1)), h.dif, by simpa using h.top, h.low, h.few⟩
  obtain ⟨us, hu⟩ := (h.nr x hx).blk
  exact (h.nr x hx).keep (hO _ (hT _ _ _ hu h1.1))
/-- The first k heads have been copied. -/
structure CpI (rlo lo : Nat) (g n k : Nat) (xs ys : List Nd) (w : World) : Prop where
  len : ys.length = k
  row : Ow 109 lo w (.slice (some ⟨g, 0, none⟩) n n) (ys.map (fun y => ptr9 y.b) ++ List.replicate (n - k) (.pointer none))
  sim : ∀ i (h1 : i < ys.length) (h2 : i < xs.length), ys[i].row = xs[i].row ∧ ys[i].tier = xs[i].tier ∧ ys[i].adds = xs[i].adds
  nr : ∀ y ∈ ys, NdR rlo w.heap.size w y
  nm : ∀ y ∈ ys, NdM lo w.heap.size w y
  dif : (ys.map Nd.b).Nodup
theorem CpI.snoc {rlo lo g n k : Nat} {xs ys : List Nd} {w w' : World} (h : CpI rlo lo g n k xs ys w) (hk : k < n) (hx : k < xs.length) {b : Nat} (hb : Blk w' b #[xs[k].rv, .int .i64 xs[k].tier, .bool xs[k].adds] 111) (hbw : w.heap.size ≤ b) (hlo : lo ≤ b)
    (hr : NdR rlo w.heap.size w xs[k]) (hs : ∀ j, j < w.heap.size → j ≠ g → w'.heap[j]? = w.heap[j]?) (hz : w.heap.size ≤ w'.heap.size) (hg : ∀ (j : Nat) vs t, Blk w j vs t → t ≠ 109 → j ≠ g)
    (ho : Ow 109 lo w' (.slice (some ⟨g, 0, none⟩) n n) (List.set (ys.map (fun y : Nd => ptr9 y.b) ++ List.replicate (n - k) (Value.pointer none)) k (ptr9 b))) : CpI rlo lo g n (k + 1) xs (ys ++ [xs[k].at b]) w' := by
  have hB : ∀ (j : Nat) vs t, Blk w j vs t → t ≠ 109 → w'.heap[j]? = w.heap[j]? := fun j vs t h1 h2 => hs j h1.lt (hg j vs t h1 h2)
  have hR : ∀ y, NdR rlo w.heap.size w y → NdR rlo w'.heap.size w' y := fun y hy => by
    obtain ⟨vs, hv⟩ := hy.blk
    have := hy.keep (hB _ _ _ hv (by decide))
    exact ⟨this.rlo, Nat.lt_of_lt_of_le this.rhi hz, this.blk, this.cells, this.pos, this.le, this.max⟩
  refine ⟨by rw [List.length_append, h.len]; rfl, ?_, fun i h1 h2 => ?_, fun y hy => ?_, fun y hy => ?_, ?_⟩
  · rw [set_pad (by rw [List.length_map, h.len]) hk] at ho
    simpa [Nd.at] using ho
  · by_cases e : i < ys.length
    · rw [List.getElem_append_left e]
      exact h.sim i e h2
    · have hl := h.len
      obtain rfl : i = k := by simp at h1; omega
      rw [List.getElem_append_right (by omega)]
      simp [Nd.at]
  · rcases List.mem_append.1 hy with c | c
    · exact hR y (h.nr y c)
    · simp at c
      subst c
      have := hR _ hr
      exact ⟨this.rlo, this.rhi, this.blk, this.cells, this.pos, this.le, this.max⟩
  · rcases List.mem_append.1 hy with c | c
    · have h1 := h.nm y c
      have := h1.keep (hB _ _ _ h1.blk (by decide))
      exact ⟨this.lo, Nat.lt_of_lt_of_le this.hi hz, this.blk⟩
    · simp at c
      subst c
      exact ⟨hlo, hb.lt, hb⟩
  · rw [List.map_append, List.nodup_append]
    refine ⟨h.dif, by simp, fun p hp q hq e => ?_⟩
    simp [Nd.at] at hq
    subst hq e
    obtain ⟨y, hy, e⟩ := List.mem_map.1 hp
    have := (h.nm y hy).hi
    omega
set_option maxRecDepth 100000 in
set_option maxHeartbeats 8000000 in
theorem copied_any {tv : TypeId} {rlo lo hi : Nat} {w : World} {a : Nat} {L : List Tr} {R : List Pr} (h : VS tv rlo lo hi w a L R) :
    Calls Try.prog 72 #[ptr9 a] w fun e w' => ∃ o' c' ys a', e = .returned (.agg #[.slice o' ys.length c']) ∧ VW 97 rlo (w.heap.size + 1) w'.heap.size w' a' c' o' ys ∧ At9 L R ys ∧ Below w.heap.size w w' := by
  obtain ⟨i0, hi0, hz0, hz1, hz2⟩ := infoH
  obtain ⟨c, o, xs, hv, hat⟩ := h
  have d0 := hv.cell
  have hfew := hv.few
  obtain ⟨n, hn⟩ : ∃ n, n = xs.length := ⟨_, rfl⟩
  rw [← hn] at d0 hfew
  have HN := Lib.hid hn
  have HV := Lib.hid (And.intro hv hat)
  have la := hv.blk.lt
  have gA := Gr.alloc w (.cells #[.slice none 0 0] 97)
  clear hv hat hn
  go_enter Try.func72, Try.ntmps72
  go_wp2_with (refine wpList_make_full _ rfl _ _ _ rfl (w.heap.size + 1) 109 i0 (.pointer none) 1 Try.underlying95 hi0 hz0 hz1 .i64 .i64 _ _ n rfl rfl rfl rfl ?ma ?mb ?mc ?_)
  case ma => rw [hz2]; omega
  case mb => unfold maxLen; omega
  case mc => simp
  intro w1 ho1 hg1
  have hb1 : Below (w.heap.size + 1) (w.alloc (.cells #[.slice none 0 0] 97)) w1 := ((Below.refl _ _).grown hg1 (by simp) (fun _ h => by cases h))
  rw [toList_madeCells_one] at ho1
  have hO1 : Ow 109 (w.heap.size + 1) w1 (.slice (some ⟨w.heap.size + 1, 0, none⟩) n n) (List.replicate n (.pointer none)) := by
    unfold Ow
    rw [List.length_replicate]
    exact ho1
  have hlow : Below w.heap.size w w1 := gA.below.trans (hb1.mono (Nat.le_succ _))
  have hr1 : Blk w1 w.heap.size #[.slice none 0 0] 97 := (Blk.new w _ _).below hb1 (Nat.lt_succ_self _)
  have hgs : w.heap.size + 1 < w1.heap.size := (hO1.ge _ rfl).2
  have H1 := Lib.hid (And.intro hO1 (And.intro hlow hr1))
  clear ho1 hg1 hb1 hO1 hlow hr1
  have d1 := (H1.out.2.1.cell (p := ⟨a, 0, none⟩) la).trans d0
  have la1 := Nat.lt_of_lt_of_le la H1.out.2.1.size
  go_wp2
  go_loopw [19] (fun s19 wr => ∃ (k : Nat) (ys : List Nd), k ≤ n ∧ s19 = .int .i64 (k : Int) ∧ Hid (CpI rlo (w.heap.size + 1) (w.heap.size + 1) n k xs ys wr) ∧ Hid (Blk wr w.heap.size #[.slice none 0 0] 97 ∧ Blk wr w1.heap.size #[.slice (some ⟨w.heap.size + 1, 0, none⟩) n n] 97 ∧ Below w.heap.size w wr)) (fun s19 _ => n - (intOf s19).toNat)
  case atStart =>
    have g2 := Gr.alloc w1 (.cells #[.slice (some ⟨w.heap.size + 1, 0, none⟩) n n] 97)
    exact ⟨0, [], Nat.zero_le _, rfl, Lib.hid ⟨rfl, by simpa using H1.out.1.alloc _, fun i h => by simp at h, fun y h => by simp at h, fun y h => by simp at h, by simp⟩, Lib.hid ⟨H1.out.2.2.alloc _, Blk.new w1 _ _, below_later H1.out.2.1 g2.below⟩⟩
  case round =>
    obtain ⟨k, ys, hk, rfl, HC, HB⟩ := hrel
    by_cases hlt : k < n
    · have hkx : k < xs.length := by rw [← HN.out]; exact hlt
      have hvr := HV.out.1.later HB.out.2.2
      obtain ⟨q, rfl, hq1, hq2, hqc, hqm, hcell⟩ := hvr.q (by omega)
      have d2 := (hcell k hkx).1
      have xr := hvr.nr xs[k] (List.getElem_mem hkx)
      have xm := hvr.nm xs[k] (List.getElem_mem hkx)
      have e0 : wr.cell? ⟨xs[k].b, 0, none⟩ = some xs[k].rv := (xm.blk.cell 0).trans rfl
      have e1 : wr.cell? ⟨xs[k].b, 1, none⟩ = some (.int .i64 xs[k].tier) := (xm.blk.cell 1).trans rfl
      have e2 : wr.cell? ⟨xs[k].b, 2, none⟩ = some (.bool xs[k].adds) := (xm.blk.cell 2).trans rfl
      have l0 := xm.blk.lt
      have lq : q < wr.heap.size := Nat.lt_of_lt_of_le hq2 hvr.top
      have l1 := HB.out.2.1.lt
      have d3 : wr.cell? ⟨w1.heap.size, 0, none⟩ = some (.slice (some ⟨w.heap.size + 1, 0, none⟩) n n) := (HB.out.2.1.cell 0).trans rfl
      have HX := Lib.hid (And.intro xr xm)
      have HQ := Lib.hid hvr
      obtain ⟨d4, f4, lg, o4⟩ := (HC.out.row.alloc (.cells #[xs[k].rv, .int .i64 xs[k].tier, .bool xs[k].adds] 111)).set9 (i := k) (by rw [List.length_append, List.length_map, List.length_replicate, HC.out.len]; omega) (ptr9 wr.heap.size)
      have HO4 := Lib.hid o4
      obtain ⟨z, hz⟩ : ∃ z, z = (List.map (fun y : Nd => ptr9 y.b) ys ++ List.replicate (n - k) (.pointer none))[k]'(by rw [List.length_append, List.length_map, List.length_replicate, HC.out.len]; omega) := ⟨_, rfl⟩
      rw [← hz] at d4
      obtain ⟨bx, hbx⟩ : ∃ bx, bx = xs[k].b := ⟨_, rfl⟩
      obtain ⟨rb, hrb⟩ : ∃ rb, rb = xs[k].rb := ⟨_, rfl⟩
      obtain ⟨off, hoff⟩ : ∃ off, off = xs[k].off := ⟨_, rfl⟩
      obtain ⟨cap, hcap⟩ : ∃ cap, cap = xs[k].cap := ⟨_, rfl⟩
      obtain ⟨m, hm⟩ : ∃ m, m = xs[k].row.length := ⟨_, rfl⟩
      obtain ⟨t, ht⟩ : ∃ t, t = xs[k].tier := ⟨_, rfl⟩
      obtain ⟨ad, had⟩ : ∃ ad, ad = xs[k].adds := ⟨_, rfl⟩
      have HB6 := Lib.hid (And.intro hbx (And.intro hrb (And.intro hoff (And.intro hcap (And.intro hm (And.intro ht had))))))
      simp only [Nd.rv] at e0 d4 f4
      rw [← hbx] at d2 e0 e1 e2 l0
      rw [← hrb, ← hoff, ← hm, ← hcap] at e0 d4 f4
      rw [← ht] at e1 d4 f4
      rw [← had] at e2 d4 f4
      have hqn : n ≤ c := by rw [HN.out]; exact hqc
      clear hz hbx hrb hoff hcap hm ht had hvr hcell xr xm o4 hq1 hq2 hqm hqc
      go_wp2
      go_roundw
      case rel =>
        have h6 := HB6.out
        obtain ⟨rfl, rfl, rfl, rfl, rfl, rfl, rfl⟩ := h6
        have hnb : ∀ (j : Nat) vs t, Blk wr j vs t → t ≠ 109 → j ≠ w.heap.size + 1 := fun j vs t h1 h2 e => HC.out.row.ne_blk h1 (Ne.symm h2) (by rw [e]; rfl)
        have hgA := Gr.alloc wr (.cells #[.slice (some ⟨xs[k].rb, xs[k].off, none⟩) xs[k].row.length xs[k].cap, .int .i64 xs[k].tier, .bool xs[k].adds] 111)
        have hold : ∀ j, j < wr.heap.size → j ≠ w.heap.size + 1 → ((wr.alloc (.cells #[.slice (some ⟨xs[k].rb, xs[k].off, none⟩) xs[k].row.length xs[k].cap, .int .i64 xs[k].tier, .bool xs[k].adds] 111)).setCell ⟨w.heap.size + 1, k, none⟩ (ptr9 wr.heap.size)).heap[j]? = wr.heap[j]? := fun j h1 h2 => (Below.heap_setCell _ _ _ j h2).trans (hgA.below.block j h1)
        have hlw := HB.out.1.lt
        have hrw : w.heap.size + 1 < wr.heap.size := by
          have := HB.out.2.1.lt
          omega
        refine ⟨k + 1, ys ++ [xs[k].at wr.heap.size], hlt, by go_num, Lib.hid (HC.out.snoc hlt hkx ((Blk.new wr _ _).other (by show wr.heap.size ≠ w.heap.size + 1; omega) _) (Nat.le_refl _) (by omega) ?_ hold (by simp) hnb HO4.out), Lib.hid ⟨(hold _ hlw (by omega)).trans HB.out.1, (hold _ HB.out.2.1.lt (hnb _ _ _ HB.out.2.1 (by decide))).trans HB.out.2.1, Below.set9 (below_later HB.out.2.2 hgA.below) (by show w.heap.size ≤ w.heap.size + 1; omega)⟩⟩
        have hr := HX.out.1
        exact ⟨hr.rlo, Nat.lt_of_lt_of_le hr.rhi HQ.out.top, hr.blk, hr.cells, hr.pos, hr.le, hr.max⟩
      case measure => simp [intOf]; omega
    · obtain rfl : k = n := by omega
      have d3 : wr.cell? ⟨w1.heap.size, 0, none⟩ = some (.slice (some ⟨w.heap.size + 1, 0, none⟩) k k) := (HB.out.2.1.cell 0).trans rfl
      have d5 : wr.cell? ⟨w.heap.size, 0, none⟩ = some (.slice none 0 0) := (HB.out.1.cell 0).trans rfl
      have f5 := HB.out.1.frozen 0
      have l5 := HB.out.1.lt
      go_wp2
      have hk := HB.out.1.set 0 (.slice (some ⟨w.heap.size + 1, 0, none⟩) k k)
      have r0 := hk.cell 0
      have hyl : ys.length = k := HC.out.len
      have hO : ∀ j, w.heap.size + 1 ≤ j → (wr.setCell ⟨w.heap.size, 0, none⟩ (.slice (some ⟨w.heap.size + 1, 0, none⟩) k k)).heap[j]? = wr.heap[j]? := fun j hj => Below.heap_setCell _ _ _ j (by show j ≠ w.heap.size; omega)
      refine bodyPost_ret (v := .agg #[.slice (some ⟨w.heap.size + 1, 0, none⟩) k k]) (by simp at r0; simp [results, Try.results72, go_sem, r0]) rfl ⟨some ⟨w.heap.size + 1, 0, none⟩, k, ys, w1.heap.size, by rw [hyl], ?_, ?_, Below.set9 HB.out.2.2 (Nat.le_refl _)⟩
      · have hrow := HC.out.row
        rw [Nat.sub_self, List.replicate_zero, List.append_nil] at hrow
        have hl1 := HB.out.2.1.lt
        have hrl : rlo ≤ w.heap.size := Nat.le_trans HV.out.1.low (Nat.le_of_lt (Nat.lt_of_le_of_lt HV.out.1.alo la))
        have hv : VW 97 rlo (w.heap.size + 1) wr.heap.size wr w1.heap.size k (some ⟨w.heap.size + 1, 0, none⟩) ys :=
          { tne := by decide, blk := by rw [hyl]; exact HB.out.2.1, alo := by omega, ahi := hl1, row := by rw [hyl]; exact hrow, qhi := fun g e => (by injection e with e; subst e; show w.heap.size + 1 < wr.heap.size; omega), nr := HC.out.nr, nm := HC.out.nm, dif := HC.out.dif, top := Nat.le_refl _, low := by omega, few := by omega }
        have := hv.aside HB.out.1 (by decide) (by omega) 0 (.slice (some ⟨w.heap.size + 1, 0, none⟩) k k)
        simpa using this
      · exact HV.out.2.copy ((List.pairwise_map.1 HV.out.1.dif).imp fun hab e => hab (by rw [e])) (by rw [hyl]; exact HN.out) HC.out.sim
end Go.Proofs.Ytlhigfphfbmbjaa

