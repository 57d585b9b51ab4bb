import Derived.Test.YtlhigfphfbmbjaaZA
import Derived.Test.YtlhigfphfbmbjaaW0
import Derived.Test.YtlhigfphfbmbjaaZB
import Derived.Test.YtlhigfphfbmbjaaZC
/- View: plain facts: what is left of tiers, by heads; what the first head says. No program is named here. -/
namespace Go.Proofs.Kit
open Go.RowKit
def rowAt (L : List Tr) (t : Nat) (ad : Bool) : List Pr := match L[t]? with
  | some x => if ad then x.1 else x.2
  | none => []
theorem rowAt_mem {L : List Tr} {t : Nat} {ad : Bool} {q : Pr} (h : q ∈ rowAt L t ad) : ∃ (ht : t < L.length), (ad = true → q ∈ L[t].1) ∧ (ad = false → q ∈ L[t].2) := by
  unfold rowAt at h
  cases hL : L[t]? with
  | none => rw [hL] at h; simp at h
  | some x =>
    obtain ⟨ht, e⟩ := List.getElem?_eq_some_iff.1 hL
    rw [hL] at h
    refine ⟨ht, ?_, ?_⟩
    · rintro rfl; rw [e]; simpa using h
    · rintro rfl; rw [e]; simpa using h
theorem mem_rowAt {L : List Tr} {t : Nat} (ht : t < L.length) {q : Pr} : (q ∈ L[t].1 → q ∈ rowAt L t true) ∧ (q ∈ L[t].2 → q ∈ rowAt L t false) := by
  unfold rowAt
  rw [List.getElem?_eq_getElem ht]
  simp
theorem rowAt_run {L : List Tr} (h : goodT L) (t : Nat) (ad : Bool) : okP (rowAt L t ad) := by
  unfold rowAt
  cases hL : L[t]? with
  | none => exact ⟨Run.nil, by simp⟩
  | some x =>
    have := (h.1 x (List.mem_of_getElem? hL)).1
    cases ad
    · exact this.2
    · exact this.1
/-- Upwards from somewhere. -/
def Up (G : Pr → Bool) : Prop := ∀ p q, lt2 p q → G p = true → G q = true
/-- What these heads leave out of tiers is not wanted. -/
structure Inv9 (L : List Tr) (G : Pr → Bool) (hs : List Nd) : Prop where
  key : ∀ x ∈ hs, ∀ y ∈ hs, x.tier = y.tier → x.adds = y.adds → x = y
  suf : ∀ x ∈ hs, ∃ d, rowAt L x.tier x.adds = d ++ x.row ∧ ∀ q ∈ d, G q = false
  pos : ∀ x ∈ hs, 0 < x.row.length
  miss : ∀ t ad, (∀ x ∈ hs, x.tier = t → x.adds = ad → False) → ∀ q ∈ rowAt L t ad, G q = false
theorem Inv9.perm {L : List Tr} {G : Pr → Bool} {hs ks : List Nd} (h : Inv9 L G hs) (hp : ks.Perm hs) : Inv9 L G ks where
  key x hx y hy := h.key x (hp.mem_iff.1 hx) y (hp.mem_iff.1 hy)
  suf x hx := h.suf x (hp.mem_iff.1 hx)
  pos x hx := h.pos x (hp.mem_iff.1 hx)
  miss t ad hm := h.miss t ad fun x hx => hm x (hp.mem_iff.2 hx)
theorem Inv9.mono {L : List Tr} {G G' : Pr → Bool} {hs : List Nd} (h : Inv9 L G hs) (hg : ∀ q, G' q = true → G q = true) : Inv9 L G' hs where
  key := h.key
  suf x hx := by
    obtain ⟨d, e, k⟩ := h.suf x hx
    refine ⟨d, e, fun q hq => ?_⟩
    cases hh : G' q
    · rfl
    · have := hg q hh; rw [k q hq] at this; cases this
  pos := h.pos
  miss t ad hm q hq := by
    have := h.miss t ad hm q hq
    cases hh : G' q
    · rfl
    · rw [hg q hh] at this; cases this
/-- All that is wanted of a row stands in its head. -/
theorem Inv9.has {L : List Tr} {G : Pr → Bool} {hs : List Nd} (h : Inv9 L G hs) {t : Nat} {ad : Bool} {q : Pr} (hq : q ∈ rowAt L t ad) (hG : G q = true) : ∃ x ∈ hs, x.tier = t ∧ x.adds = ad ∧ q ∈ x.row := by
  by_cases c : ∃ x ∈ hs, x.tier = t ∧ x.adds = ad
  · obtain ⟨x, hx, rfl, rfl⟩ := c
    obtain ⟨d, e, k⟩ := h.suf x hx
    rw [e] at hq
    rcases List.mem_append.1 hq with m | m
    · rw [k q m] at hG; cases hG
    · exact ⟨x, hx, rfl, rfl, m⟩
  · have := h.miss t ad (fun x hx e1 e2 => c ⟨x, hx, e1, e2⟩) q hq
    rw [this] at hG; cases hG
theorem says_at {L : List Tr} {q : Pr} (h : says L q ≠ 0) : ∃ t ad, q ∈ rowAt L t ad := by
  by_cases c : ∃ t ad, q ∈ rowAt L t ad
  · exact c
  · refine (h ((says_none L q).2 fun x hx => ?_)).elim
    obtain ⟨t, ht, rfl⟩ := List.getElem_of_mem hx
    exact ⟨fun m => c ⟨t, true, (mem_rowAt ht).1 m⟩, fun m => c ⟨t, false, (mem_rowAt ht).2 m⟩⟩
theorem Inv9.end {L : List Tr} {G : Pr → Bool} (h : Inv9 L G []) (q : Pr) (hG : G q = true) : says L q = 0 := by
  by_cases c : says L q = 0
  · exact c
  · obtain ⟨t, ad, hq⟩ := says_at c
    obtain ⟨x, hx, _⟩ := h.has hq hG
    simp at hx
theorem Inv9.p_mem {L : List Tr} {G : Pr → Bool} {hs : List Nd} (h : Inv9 L G hs) {x : Nd} (hx : x ∈ hs) : x.p ∈ x.row := by
  have := h.pos x hx
  cases e : x.row with
  | nil => rw [e] at this; simp at this
  | cons a r => simp [Nd.p, e]
theorem Inv9.row_mem {L : List Tr} {G : Pr → Bool} {hs : List Nd} (h : Inv9 L G hs) {x : Nd} (hx : x ∈ hs) {q : Pr} (hq : q ∈ x.row) : q ∈ rowAt L x.tier x.adds := by
  obtain ⟨d, e, _⟩ := h.suf x hx
  rw [e]
  exact List.mem_append_right _ hq
theorem Inv9.run {L : List Tr} {G : Pr → Bool} {hs : List Nd} (h : Inv9 L G hs) (hg : goodT L) {x : Nd} (hx : x ∈ hs) : Run x.row ∧ x.row.length ≤ 1048576 := by
  obtain ⟨d, e, _⟩ := h.suf x hx
  have := rowAt_run hg x.tier x.adds
  rw [e] at this
  refine ⟨this.1.sub (List.sublist_append_right _ _), ?_⟩
  have := this.2
  simp at this
  omega
/-- Nothing of a head's row stands ahead of its first pair. -/
theorem Inv9.ge {L : List Tr} {G : Pr → Bool} {hs : List Nd} (h : Inv9 L G hs) (hg : goodT L) {x : Nd} (hx : x ∈ hs) {q : Pr} (hq : q ∈ x.row) : ¬ lt2 q x.p := by
  have hr := (h.run hg hx).1
  have hp := h.pos x hx
  cases e : x.row with
  | nil => rw [e] at hq; simp at hq
  | cons a r =>
    have hxp : x.p = a := by simp [Nd.p, e]
    rw [hxp]
    rw [e] at hq hr
    rcases List.mem_cons.1 hq with rfl | m
    · exact lt2_irrefl _
    · exact lt2_asymm (hr.head q m)
/-- The first head, x, wanted as it is, is the first pair of all; its tier says of it. -/
theorem Inv9.first {L : List Tr} {G : Pr → Bool} {hs : List Nd} (h : Inv9 L G hs) (hg : goodT L) {x : Nd} (hx : x ∈ hs) (hmin : ∀ y ∈ hs, le9 x y) (hG : G x.p = true) :
    (∀ q, G q = true → says L q ≠ 0 → ¬ lt2 q x.p) ∧ says L x.p = if x.adds then 1 else 2 := by
  refine ⟨fun q hq hs hlt => ?_, ?_⟩
  · obtain ⟨t, ad, hm⟩ := says_at hs
    obtain ⟨y, hy, rfl, rfl, hmy⟩ := h.has hm hq
    have h1 := h.ge hg hy hmy
    rcases hmin y hy with k | ⟨k, _⟩
    · exact h1 (lt2_trans hlt k)
    · exact h1 (k ▸ hlt)
  · have hxm := h.row_mem hx (h.p_mem hx)
    obtain ⟨ht, ha, hd⟩ := rowAt_mem hxm
    have hone := hg.1 L[x.tier] (List.getElem_mem ht)
    have hsplit : L = L.take x.tier ++ [L[x.tier]] ++ L.drop (x.tier + 1) := by simp
    have hnew : says (L.drop (x.tier + 1)) x.p = 0 := by
      refine (says_none _ _).2 fun u hu => ?_
      obtain ⟨j, hj, rfl⟩ := List.getElem_of_mem hu
      rw [List.length_drop] at hj
      have hjl : x.tier + 1 + j < L.length := by omega
      have key : ∀ ad, x.p ∉ rowAt L (x.tier + 1 + j) ad := fun ad hm => by
        obtain ⟨y, hy, e1, e2, hmy⟩ := h.has hm hG
        have h1 := h.ge hg hy hmy
        rcases hmin y hy with k | ⟨_, k⟩
        · exact h1 k
        · omega
      rw [List.getElem_drop]
      exact ⟨fun m => key true ((mem_rowAt hjl).1 m), fun m => key false ((mem_rowAt hjl).2 m)⟩
    rw [hsplit, says_append, hnew, if_pos rfl, says_append, says_one]
    cases had : x.adds
    · have := hd had
      have hn : x.p ∉ L[x.tier].1 := fun c => hone.2 _ c this
      simp [say1, hn, this]
    · have := ha had
      simp [say1, this]
/-- A head that is not far enough goes on. -/
theorem Inv9.cut {L : List Tr} {G : Pr → Bool} {x : Nd} {hs : List Nd} (h : Inv9 L G (x :: hs)) (hnd : x ∉ hs) {K : Nat} (hK : ∀ i (_ : i < x.row.length), i < K → G x.row[i] = false) :
    (x.row.length ≤ K → Inv9 L G hs) ∧ (∀ x' : Nd, x'.tier = x.tier → x'.adds = x.adds → x'.row = x.row.drop K → K < x.row.length → Inv9 L G (x' :: hs)) := by
  have hke : ∀ y ∈ hs, y.tier = x.tier → y.adds = x.adds → False := fun y hy e1 e2 => hnd (h.key y (by simp [hy]) x (by simp) e1 e2 ▸ hy)
  have hd : ∀ q ∈ x.row.take K, G q = false := fun q hq => by
    obtain ⟨i, hi, rfl⟩ := List.getElem_of_mem hq
    rw [List.length_take] at hi
    rw [List.getElem_take]
    exact hK i (by omega) (by omega)
  refine ⟨fun hl => ⟨fun y hy z hz => h.key y (by simp [hy]) z (by simp [hz]), fun y hy => h.suf y (by simp [hy]), fun y hy => h.pos y (by simp [hy]), fun t ad hm q hq => ?_⟩, fun x' e1 e2 e3 hlt => ⟨fun y hy z hz => ?_, fun y hy => ?_, fun y hy => ?_, fun t ad hm => ?_⟩⟩
  · by_cases c : x.tier = t ∧ x.adds = ad
    · obtain ⟨d, e, k⟩ := h.suf x (by simp)
      rw [← c.1, ← c.2, e] at hq
      rcases List.mem_append.1 hq with m | m
      · exact k q m
      · rw [List.take_of_length_le hl] at hd
        exact hd q m
    · refine h.miss t ad (fun y hy f1 f2 => ?_) q hq
      rcases List.mem_cons.1 hy with rfl | hy
      · exact c ⟨f1, f2⟩
      · exact hm y hy f1 f2
  · intro f1 f2
    rcases List.mem_cons.1 hy with ey | hy' <;> rcases List.mem_cons.1 hz with ez | hz'
    · rw [ey, ez]
    · exact (hke z hz' (by rw [← f1, ey, e1]) (by rw [← f2, ey, e2])).elim
    · exact (hke y hy' (by rw [f1, ez, e1]) (by rw [f2, ez, e2])).elim
    · exact h.key y (by simp [hy']) z (by simp [hz']) f1 f2
  · rcases List.mem_cons.1 hy with rfl | hy
    · obtain ⟨d, e, k⟩ := h.suf x (by simp)
      refine ⟨d ++ x.row.take K, by rw [e1, e2, e3, e, List.append_assoc, List.take_append_drop], fun q hq => ?_⟩
      rcases List.mem_append.1 hq with m | m
      · exact k q m
      · exact hd q m
    · exact h.suf y (by simp [hy])
  · rcases List.mem_cons.1 hy with rfl | hy
    · rw [e3, List.length_drop]; omega
    · exact h.pos y (by simp [hy])
  · refine h.miss t ad fun y hy f1 f2 => ?_
    rcases List.mem_cons.1 hy with rfl | hy
    · exact hm x' (by simp) (by rw [e1, f1]) (by rw [e2, f2])
    · exact hm y (by simp [hy]) f1 f2
/-- Where a view stands: what is left of all, by these heads. -/
structure At9 (L : List Tr) (R : List Pr) (hs : List Nd) : Prop where
  good : goodT L
  ex : ∃ G, Up G ∧ Inv9 L G hs ∧ (∀ x ∈ hs, ∀ q ∈ x.row, G q = true) ∧ R = (those L 1).filter G
  hp : Hp hs
  adds : ∀ h : 0 < hs.length, hs[0].adds = true
theorem Hp.min0 {hs : List Nd} (h : Hp hs) (hl : 0 < hs.length) : ∀ y ∈ hs, le9 hs[0] y := by
  intro y hy
  obtain ⟨i, hi, rfl⟩ := List.getElem_of_mem hy
  exact h.root i hi
theorem At9.nil {L : List Tr} {R : List Pr} (h : At9 L R []) : R = [] := by
  obtain ⟨G, _, h1, _, rfl⟩ := h.ex
  refine List.filter_eq_nil_iff.2 fun q hq hG => ?_
  have := (those_mem (by decide) q).1 hq
  have := h1.end q hG
  omega
theorem At9.cons {L : List Tr} {R : List Pr} {hs : List Nd} (h : At9 L R hs) (hl : 0 < hs.length) : ∃ r, R = hs[0].p :: r := by
  obtain ⟨G, _, h1, h2, rfl⟩ := h.ex
  have hx := List.getElem_mem hl
  have hG := h2 _ hx _ (h1.p_mem hx)
  obtain ⟨h3, h4⟩ := h1.first h.good hx (h.hp.min0 hl) hG
  rw [h.adds hl] at h4
  have hm : hs[0].p ∈ (those L 1).filter G := List.mem_filter.2 ⟨(those_mem (by decide) _).2 (by simpa using h4), hG⟩
  have hr : Run ((those L 1).filter G) := (those_run L 1).sub List.filter_sublist
  cases e : (those L 1).filter G with
  | nil => rw [e] at hm; simp at hm
  | cons a r =>
    refine ⟨r, ?_⟩
    rw [e] at hm hr
    rcases List.mem_cons.1 hm with k | k
    · rw [k]
    · have ha : a ∈ (those L 1).filter G := by rw [e]; simp
      have ha' := List.mem_filter.1 ha
      have := (those_mem (by decide) a).1 ha'.1
      exact (h3 a ha'.2 (by omega) (hr.head _ k)).elim
end Go.Proofs.Kit


/- heads.goTo. -/
namespace Go.Proofs.Kit
open Go.RowKit
def mu9 (fp : Pr → Bool) : List Nd → Nat
  | [] => 0
  | x :: r => 2 * ((x :: r).map (·.row.length)).sum + if fp x.p then 1 else 0
theorem mu9_le (fp : Pr → Bool) (l : List Nd) : mu9 fp l ≤ 2 * (l.map (·.row.length)).sum + 1 := by
  cases l with
  | nil => simp [mu9]
  | cons x r =>
    rw [mu9]
    split
    · exact Nat.le_refl _
    · exact Nat.le_succ _
theorem PCells.drop9 {w : World} {b f : Nat} {l : List Pr} (h : PCells w b f l) (K : Nat) : PCells w b (f + K * 2) (l.drop K) := fun i hi => by
  rw [List.length_drop] at hi
  have := h (K + i) (by omega)
  rw [List.getElem_drop]
  rw [show f + (K + i) * 2 = f + K * 2 + i * 2 by omega] at this
  exact this
/-- Where the first head, wanted, is added. -/
theorem At9.stop {L : List Tr} {G : Pr → Bool} {ys : List Nd} (hg : goodT L) (hu : Up G) (hi : Inv9 L G ys) (hp : Hp ys) (ha : ∀ h : 0 < ys.length, ys[0].adds = true ∧ G ys[0].p = true) : At9 L ((those L 1).filter G) ys where
  good := hg
  ex := ⟨G, hu, hi, fun x hx q hq => by
    have hl : 0 < ys.length := List.length_pos_of_mem hx
    have h1 := hi.ge hg hx hq
    have h2 := (ha hl).2
    have h3 : ¬ lt2 q ys[0].p := fun c => by
      rcases hp.min0 hl x hx with k | ⟨k, _⟩
      · exact h1 (lt2_trans c k)
      · exact h1 (k ▸ c)
    rcases not_lt2 h3 with e | e
    · rw [e]; exact h2
    · exact hu _ _ e h2, rfl⟩
  hp := hp
  adds h := (ha h).1
/-- A dropped pair is passed. -/
theorem Inv9.pass {L : List Tr} {G0 fp fp' : Pr → Bool} {x : Nd} {r : List Nd} (hg : goodT L) (hi : Inv9 L (fun q => G0 q && fp q) (x :: r)) (hp : Hp (x :: r)) (hG : G0 x.p = true) (hf : fp x.p = true) (hup : ∀ p q, lt2 p q → fp p = true → fp q = true)
    (hd : x.adds = false) (hf' : ∀ q, fp' q = true ↔ lt2 x.p q) : Inv9 L (fun q => G0 q && fp' q) (x :: r) ∧ (those L 1).filter (fun q => G0 q && fp' q) = (those L 1).filter (fun q => G0 q && fp q) := by
  have him : ∀ q, fp' q = true → fp q = true := fun q h => hup _ _ ((hf' q).1 h) hf
  refine ⟨hi.mono fun q h => ?_, ?_⟩
  · rw [Bool.and_eq_true] at h ⊢
    exact ⟨h.1, him q h.2⟩
  · obtain ⟨h3, h4⟩ := hi.first hg (List.mem_cons_self ..) hp.min (by rw [hG, hf]; rfl)
    rw [hd] at h4
    refine List.filter_congr fun q hq => ?_
    have hs := (those_mem (by decide) q).1 hq
    rw [Bool.eq_iff_iff, Bool.and_eq_true, Bool.and_eq_true]
    refine ⟨fun h => ⟨h.1, him q h.2⟩, fun h => ⟨h.1, (hf' q).2 ?_⟩⟩
    rcases not_lt2 (h3 q (by rw [h.1, h.2]; rfl) (by omega)) with e | e
    · rw [e, h4] at hs; simp at hs
    · exact e
end Go.Proofs.Kit
namespace Go.Proofs.Ytlhigfphfbmbjaa
open Go.RowKit Go.Proofs.Kit Go.Shelf
theorem passed_lt (m q : Pr) : decide (0 < cf2 q m) = true ↔ lt2 m q := by rw [decide_eq_true_eq, cf2_pos]
/-- A head goes on along its row. -/
theorem NdR.on {rlo lo hi : Nat} {w : World} {x : Nd} (hr : NdR rlo hi w x) (hm : NdM lo hi w x) (K : Nat) (hK : K < x.row.length) {w' : World} (hs : w'.heap[x.rb]? = w.heap[x.rb]?)
    (hb : Blk w' x.b #[.slice (some ⟨x.rb, x.off + K * 2, none⟩) (x.row.length - K) (x.cap - K), .int .i64 x.tier, .bool x.adds] 111) :
    NdR rlo hi w' ⟨x.b, x.rb, x.off + K * 2, x.cap - K, x.row.drop K, x.tier, x.adds⟩ ∧ NdM lo hi w' ⟨x.b, x.rb, x.off + K * 2, x.cap - K, x.row.drop K, x.tier, x.adds⟩ := by
  have hk := hr.keep hs
  have hle := hr.le
  have hmx := hr.max
  exact ⟨⟨hk.rlo, hk.rhi, hk.blk, hk.cells.drop9 K, by simp; omega, by simp; omega, by simp; omega⟩, ⟨hm.lo, hm.hi, by simpa [Nd.rv] using hb⟩⟩
/-- The head that went on is put back. -/
theorem put_cut {tv : TypeId} {rlo lo hi : Nat} {w : World} {a c : Nat} {o : Option Addr} {xs : List Nd} (h : VW tv rlo lo hi w a c o xs) (hp : Hp xs) (x : Nd) (hr : NdR rlo hi w x) (hm : NdM lo hi w x) (hd : x.b ∉ xs.map Nd.b) (hf : xs.length + 1 ≤ 1000) (K : Nat) (hK : K < x.row.length) :
    Calls Try.prog 91 #[ptr9 a, ptr9 x.b] (w.setCell ⟨x.b, 0, none⟩ (.slice (some ⟨x.rb, x.off + K * 2, none⟩) (x.row.length - K) (x.cap - K))) fun e w' => e = .returned (.tuple #[]) ∧ ∃ hi' c' o' ys, VW tv rlo lo hi' w' a c' o' ys ∧ ys.Perm (⟨x.b, x.rb, x.off + K * 2, x.cap - K, x.row.drop K, x.tier, x.adds⟩ :: xs) ∧ Hp ys ∧ (xs.length < c → hi' = hi) ∧ Mid lo hi w w' := by
  obtain ⟨h1, h2, h3⟩ := h.other hm hd (.slice (some ⟨x.rb, x.off + K * 2, none⟩) (x.row.length - K) (x.cap - K))
  obtain ⟨vs, hv⟩ := hr.blk
  have hne : x.rb ≠ x.b := fun e => by
    rw [e] at hv
    have e := (show w.heap[x.b]? = _ from hv).symm.trans hm.blk
    injection e with e
    injection e with _ e _
    exact absurd e (by decide)
  obtain ⟨r1, r2⟩ := hr.on hm K hK (Below.heap_setCell _ _ _ _ hne) h3
  refine (put_any h1 hp ⟨x.b, x.rb, x.off + K * 2, x.cap - K, x.row.drop K, x.tier, x.adds⟩ r1 r2 hd hf).mono ?_
  rintro e w' ⟨rfl, hi', c', o', ys, hP⟩
  refine ⟨rfl, hi', c', o', ys, hP.v, hP.perm, hP.hp, fun k => ?_, h2.trans (h1.midF hP.fr)⟩
  rcases hP.room with k' | k'
  · exact k'.2
  · omega
theorem put_over {tv : TypeId} {rlo lo hi : Nat} {w : World} {a c : Nat} {o : Option Addr} {xs : List Nd} (h : VW tv rlo lo hi w a c o xs) (x : Nd) (hm : NdM lo hi w x) (hd : x.b ∉ xs.map Nd.b) (o1 : Option Addr) (c1 : Nat) :
    Calls Try.prog 91 #[ptr9 a, ptr9 x.b] (w.setCell ⟨x.b, 0, none⟩ (.slice o1 0 c1)) fun e w' => e = .returned (.tuple #[]) ∧ VW tv rlo lo hi w' a c o xs ∧ Mid lo hi w w' := by
  obtain ⟨h1, h2, h3⟩ := h.other hm hd (.slice o1 0 c1)
  refine (put_none x.b o1 c1 _ _ _ h3).mono ?_
  rintro e w' ⟨rfl, rfl⟩
  exact ⟨rfl, h1, h2⟩
set_option maxRecDepth 100000 in
set_option maxHeartbeats 16000000 in
theorem goTo_any {tv : TypeId} {rlo lo hi : Nat} {w : World} {a c : Nat} {o : Option Addr} {xs : List Nd} {fid : Nat} {m : Pr} {fp : Pr → Bool} (hf : Far fid m fp) {L : List Tr} {G0 : Pr → Bool} (hg : goodT L) (hup : Up G0) (h : VW tv rlo lo hi w a c o xs) (hp : Hp xs) (hinv : Inv9 L G0 xs) (hall : ∀ x ∈ xs, ∀ q ∈ x.row, G0 q = true) :
    Calls Try.prog 66 #[ptr9 a, fv9 fid m] w fun e w' => e = .returned (.tuple #[]) ∧ ∃ c' o' ys, VW tv rlo lo hi w' a c' o' ys ∧ At9 L ((those L 1).filter fun q => G0 q && fp q) ys ∧ Mid lo hi w w' := by
  have hmix := mixed
  have H0 := Lib.hid (And.intro h (And.intro hp (And.intro (hinv.mono (G' := fun q => G0 q && fp q) (fun q k => (Bool.and_eq_true _ _ ▸ k).1)) hall)))
  have HG := Lib.hid (And.intro hg hup)
  have HF0 := Lib.hid hf
  obtain ⟨C0, hC0⟩ : ∃ C0, C0 = (those L 1).filter fun q => G0 q && fp q := ⟨_, rfl⟩
  rw [← hC0]
  have HC0 := Lib.hid hC0
  clear hg hup h hp hinv hall hf hC0
  go_enter Try.func66, Try.ntmps66
  go_wp2
  go_step3
  go_wp2
  go_step3
  go_wp2
  go_loopg [1] (2 * (xs.map (·.row.length)).sum + 2) (fun kx s1 wr => ∃ (fid : Nat) (m : Pr) (fp : Pr → Bool) (ys : List Nd) (c' : Nat) (o' : Option Addr), s1 = fv9 fid m ∧ Hid (Far fid m fp) ∧ Hid (VW tv rlo lo hi wr a c' o' ys ∧ Hp ys ∧ Inv9 L (fun q => G0 q && fp q) ys ∧ (∀ x ∈ ys, ∀ q ∈ x.row, G0 q = true)) ∧ Hid (C0 = (those L 1).filter fun q => G0 q && fp q) ∧ Hid (Mid lo hi w wr) ∧ mu9 fp ys < kx)
  case atStart => exact ⟨fid, m, fp, xs, c, o, rfl, HF0, H0, HC0, Lib.hid (ButR.refl _ _), by have := mu9_le fp xs; omega⟩
  case round =>
    obtain ⟨fid, m, fp, ys, c', o', rfl, HF, HV, HC, HM, hmu⟩ := hrel
    have HUP := Lib.hid (show Up fun q => G0 q && fp q from fun p q hl hh => by
      rw [Bool.and_eq_true] at hh ⊢
      exact ⟨HG.out.2 p q hl hh.1, HF.out.up p q hl hh.2⟩)
    cases ys with
    | nil =>
      have d0 := HV.out.1.cell
      simp only [List.length_nil] at d0
      go_wp2
      simp only [Exit.noGoto]
      go_end0
      refine ⟨rfl, c', o', [], HV.out.1, ?_, HM.out⟩
      rw [HC.out]
      exact At9.stop HG.out.1 HUP.out HV.out.2.2.1 HV.out.2.1 (fun h => by simp at h)
    | cons x tl =>
      obtain ⟨g, hog, hg1, hg2, hnc, hcm, hcell⟩ := HV.out.1.q (by simp)
      have d0 := HV.out.1.cell
      have d1 := (hcell 0 (by simp)).1
      have xr := HV.out.1.nr x (List.mem_cons_self ..)
      have xm := HV.out.1.nm x (List.mem_cons_self ..)
      have d2 : wr.cell? ⟨x.b, 0, none⟩ = some x.rv := (xm.blk.cell 0).trans rfl
      have d2b : wr.cell? ⟨x.b, 2, none⟩ = some (.bool x.adds) := (xm.blk.cell 2).trans rfl
      obtain ⟨d3, d4⟩ := xr.hd
      have la := HV.out.1.blk.lt
      have lg := Nat.lt_of_lt_of_le hg2 HV.out.1.top
      have lb := xm.blk.lt
      have lr := Nat.lt_of_lt_of_le xr.rhi HV.out.1.top
      have gA := Gr.alloc wr (.cells #[.int .u64 x.p.1, .int .u64 x.p.2] 53)
      have HCALL := Lib.hid (fun W => HF.out.calls x.p W)
      have he := HF.out.enters
      have hG0 : G0 x.p = true := HV.out.2.2.2 x (List.mem_cons_self ..) _ (HV.out.2.2.1.p_mem (List.mem_cons_self ..))
      have HG0 := Lib.hid hG0
      have HDD := Lib.hid (fun (ks : List Nd) (hk : (x :: ks).Perm (x :: tl)) => (List.nodup_cons.1 ((hk.map Nd.b).nodup_iff.2 HV.out.1.dif)).1)
      have HFW := Lib.hid (fun (ks : List Nd) (hk : (x :: ks).Perm (x :: tl)) => by have h1 := hk.length_eq; have h2 := HV.out.1.few; simp only [List.length_cons] at h1 h2; show ks.length + 1 ≤ 1000; omega)
      have HTK := Lib.hid (fun W (g : Gr wr W) => take_any (HV.out.1.gr g) HV.out.2.1 (show 0 < (x :: tl).length by simp))
      simp only [List.getElem_cons_zero] at HTK d1
      have HD0 := Lib.hid (fun W (hm : NdM lo hi W x) => (show W.cell? ⟨x.b, 0, none⟩ = some x.rv from (hm.blk.cell 0).trans rfl))
      have HD1 := Lib.hid (fun W (hm : NdM lo hi W x) => (show W.frozen? ⟨x.b, 0, none⟩ = false ∧ x.b < W.heap.size from ⟨hm.blk.frozen 0, hm.blk.lt⟩))
      have HD2 := Lib.hid (fun W (hm : NdM lo hi W x) => (show W.cell? ⟨x.b, 2, none⟩ = some (.bool x.adds) from (hm.blk.cell 2).trans rfl))
      obtain ⟨nt, hnt⟩ : ∃ nt, nt = tl.length := ⟨_, rfl⟩
      have HNT := Lib.hid hnt
      simp only [List.length_cons, ← hnt] at d0 hnc
      subst hog
      obtain ⟨u, hu⟩ : ∃ u, u = fp x.p := ⟨_, rfl⟩
      rw [← hu] at HCALL
      have HU := Lib.hid hu
      have hrun := HV.out.2.2.1.run HG.out.1 (List.mem_cons_self ..)
      have HRUN := Lib.hid hrun
      obtain ⟨K, hK, hK1, hK2⟩ := first_far hrun.1 HF.out.up
      have hK0 : u = false → 0 < K := fun e => by
        rcases Nat.eq_zero_or_pos K with k | k
        · have h1 := hK2 0 xr.pos (by omega)
          have h2 : x.row[0]'xr.pos = x.p := by
            unfold Nd.p
            rw [List.headD_eq_head?_getD, List.head?_eq_getElem?, List.getElem?_eq_getElem xr.pos]
            rfl
          rw [h2, ← hu, e] at h1
          cases h1
        · exact k
      have HKS := Lib.hid (And.intro hK (And.intro hK1 hK2))
      have hpos := xr.pos
      have HON := Lib.hid (fun W (hr : NdR rlo hi W x) (h0 : 0 < K) => onwards_any HF.out x.rb x.off x.row.length x.cap x.row W hr.cells (by obtain ⟨vs, hv⟩ := hr.blk; exact hv.lt) rfl hr.le hr.max hrun.2 hr.pos K hK hK1 hK2 h0)
      obtain ⟨bx, hbx⟩ : ∃ bx, bx = x.b := ⟨_, rfl⟩
      obtain ⟨rb, hrb⟩ : ∃ rb, rb = x.rb := ⟨_, rfl⟩
      obtain ⟨off, hoff⟩ : ∃ off, off = x.off := ⟨_, rfl⟩
      obtain ⟨cap, hcap⟩ : ∃ cap, cap = x.cap := ⟨_, rfl⟩
      obtain ⟨n, hn⟩ : ∃ n, n = x.row.length := ⟨_, rfl⟩
      obtain ⟨ad, had⟩ : ∃ ad, ad = x.adds := ⟨_, rfl⟩
      obtain ⟨p, hp⟩ : ∃ p, p = x.p := ⟨_, rfl⟩
      have HBX := Lib.hid (And.intro hbx (And.intro hrb (And.intro hoff (And.intro hcap hn))))
      have HAD := Lib.hid had
      have HP := Lib.hid hp
      simp only [Nd.rv] at d2 HD0
      rw [← hbx] at d1 d2 d2b HD0 HD1 HD2 HTK lb
      rw [← hrb] at d2 d3 d4 HD0 HON lr
      rw [← hoff] at d2 d3 d4 HD0 HON
      rw [← hcap] at d2 HD0 HON
      rw [← hn] at d2 HD0 HON hpos hK
      rw [← had] at d2b HD2
      rw [← hp] at d3 d4 gA HCALL
      obtain ⟨p1, p2⟩ := p
      simp only at d3 d4 gA
      have KP := Lib.hid (Blk.new wr #[.int .u64 p1, .int .u64 p2] 53)
      have hnpos := hpos
      clear hbx hrb hoff hcap hn had hp hnt hu xr xm hcell hrun hG0 hg1 hg2 hcm hpos hK1 hK2
      cases u with
      | true =>
        have HKT := Lib.hid (And.intro HU.out HG0.out)
        clear HON HTK hK0 HDD HFW
        cases ad with
        | true =>
          go_wp2_with (first | (go_at_fn fid; refine (HCALL.out _).mono ?_; rintro e W2 ⟨rfl, g2⟩; have G2 := Lib.hid (gA.trans g2); have d2c := HD2.out W2 ((HV.out.1.gr G2.out).nm x (List.mem_cons_self ..)); have k2 := KP.out.later g2.below; have e0 : W2.cell? ⟨wr.heap.size, 0, none⟩ = some (.int .u64 p1) := (k2.cell 0).trans rfl; have e1 : W2.cell? ⟨wr.heap.size, 1, none⟩ = some (.int .u64 p2) := (k2.cell 1).trans rfl; clear g2 k2))
          simp only [Exit.noGoto]
          go_end0
          refine ⟨rfl, c', _, x :: tl, HV.out.1.gr G2.out, ?_, Mid.gr HM.out G2.out⟩
          rw [HC.out]
          exact At9.stop HG.out.1 HUP.out HV.out.2.2.1 HV.out.2.1 (fun _ => ⟨HAD.out.symm, by show (G0 x.p && fp x.p) = true; rw [HKT.out.2, ← HKT.out.1]; rfl⟩)
        | false =>
          go_wp2_with (first | (go_at_fn fid; refine (HCALL.out _).mono ?_; rintro e W2 ⟨rfl, g2⟩; have G2 := Lib.hid (gA.trans g2); have d2c := HD2.out W2 ((HV.out.1.gr G2.out).nm x (List.mem_cons_self ..)); have k2 := KP.out.later g2.below; have e0 : W2.cell? ⟨wr.heap.size, 0, none⟩ = some (.int .u64 p1) := (k2.cell 0).trans rfl; have e1 : W2.cell? ⟨wr.heap.size, 1, none⟩ = some (.int .u64 p2) := (k2.cell 1).trans rfl; clear g2 k2))
          go_roundg (mu9 fp (x :: tl))
          case measure => omega
          case rel =>
            obtain ⟨i1, i2⟩ := HV.out.2.2.1.pass (fp' := fun q => decide (0 < cf2 q x.p)) HG.out.1 HV.out.2.1 HKT.out.2 HKT.out.1.symm HF.out.up HAD.out.symm (passed_lt x.p)
            refine ⟨70, x.p, _, x :: tl, c', _, by rw [← HP.out], Lib.hid (far_passed x.p), Lib.hid ⟨HV.out.1.gr G2.out, HV.out.2.1, i1, HV.out.2.2.2⟩, Lib.hid (by rw [HC.out]; exact i2.symm), Lib.hid (Mid.gr HM.out G2.out), ?_⟩
            have e1 : decide (0 < cf2 x.p x.p) = false := decide_eq_false (fun k => lt2_irrefl _ ((cf2_pos _ _).1 k))
            simp only [mu9, e1, ← HKT.out.1]
            simp
      | false =>
        have hKpos := hK0 rfl
        have HON := Lib.hid (fun W (hr : NdR rlo hi W x) => HON.out W hr hKpos)
        clear hK0
        by_cases hKn : K < n
        · have HKX := Lib.hid (show K < x.row.length by rw [← HBX.out.2.2.2.2]; exact hKn)
          go_wp2_with (first | (go_at_fn fid; refine (HCALL.out _).mono ?_; rintro e W2 ⟨rfl, g2⟩; have G2 := Lib.hid (gA.trans g2); have d2c := HD2.out W2 ((HV.out.1.gr G2.out).nm x (List.mem_cons_self ..)); have k2 := KP.out.later g2.below; have e0 : W2.cell? ⟨wr.heap.size, 0, none⟩ = some (.int .u64 p1) := (k2.cell 0).trans rfl; have e1 : W2.cell? ⟨wr.heap.size, 1, none⟩ = some (.int .u64 p2) := (k2.cell 1).trans rfl; clear g2 k2) | (go_at_call 92; refine (HTK.out _ G2.out).mono ?_; rintro e W3 ⟨rfl, ys1, v3, p3, hp3, b3⟩; have HH3 := Lib.hid ((HV.out.1.gr G2.out).heads b3 (List.mem_cons_self ..)); have d5 := HD0.out W3 HH3.out.2; have HM3 := Lib.hid ((HV.out.1.gr G2.out).midF b3); have H3 := Lib.hid (And.intro v3 (And.intro p3 hp3)); clear v3 p3 hp3 b3) | (go_at_call 93; refine (HON.out W3 HH3.out.1).mono ?_; rintro e W4 ⟨⟨o1, c1, rfl, hc1⟩, b4⟩; obtain ⟨rfl, rfl⟩ := hc1 hKn; have hm4 := HH3.out.2.keep (b4.block _ HH3.out.2.blk.lt); have d6 := HD0.out W4 hm4; obtain ⟨f6, l6⟩ := HD1.out W4 hm4; have HPU := Lib.hid (put_cut (H3.out.1.later b4) H3.out.2.2 x (HH3.out.1.keep (b4.block _ (Nat.lt_of_lt_of_le HH3.out.1.rhi H3.out.1.top))) (HH3.out.2.keep (b4.block _ HH3.out.2.blk.lt)) (HDD.out _ H3.out.2.1) (HFW.out _ H3.out.2.1) K HKX.out); rw [← HBX.out.1, ← HBX.out.2.1, ← HBX.out.2.2.1, ← HBX.out.2.2.2.1, ← HBX.out.2.2.2.2] at HPU; have HB4 := Lib.hid b4; clear hm4 b4 hc1) | (go_at_call 91; refine (HPU.out).mono ?_; rintro e W5 ⟨rfl, hi', c2, o2, zs, v5, p5, hp5, r5, m5⟩; have H5 := Lib.hid (And.intro v5 (And.intro p5 (And.intro hp5 (And.intro r5 m5)))); clear v5 p5 hp5 r5 m5))
          go_roundg (mu9 fp (x :: tl))
          case measure => omega
          case rel =>
            have hperm := H3.out.2.1
            obtain ⟨_, j2⟩ := (HV.out.2.2.1.perm hperm).cut (fun hm => HDD.out _ hperm (List.mem_map.2 ⟨x, hm, rfl⟩)) (K := K) (fun i hi hk => by simp only [HKS.out.2.1 i hi hk, Bool.and_false])
            have j3 := j2 ⟨bx, rb, off + K * 2, cap - K, x.row.drop K, x.tier, x.adds⟩ rfl rfl rfl HKX.out
            have hroom := H5.out.2.2.2.1 (by have h1 := hperm.length_eq; have h2 := HNT.out; simp only [List.length_cons] at h1; omega)
            have h5 := H5.out.1
            rw [hroom] at h5
            refine ⟨fid, m, fp, zs, c2, o2, rfl, HF, Lib.hid ⟨h5, H5.out.2.2.1, j3.perm H5.out.2.1, fun y hy q hq => ?_⟩, HC, Lib.hid (((Mid.gr HM.out G2.out).trans HM3.out).trans ((ButR.of_below HB4.out).trans H5.out.2.2.2.2)), ?_⟩
            · rcases List.mem_cons.1 (H5.out.2.1.mem_iff.1 hy) with e | e
              · subst e
                exact HV.out.2.2.2 x (List.mem_cons_self ..) q (List.mem_of_mem_drop hq)
              · exact HV.out.2.2.2 y (hperm.mem_iff.1 (by simp [e])) q hq
            · have s1 := (H5.out.2.1.map (·.row.length)).sum_nat
              have s2 := (hperm.map (·.row.length)).sum_nat
              have h6 := mu9_le fp zs
              have h7 : mu9 fp (x :: tl) = 2 * ((x :: tl).map (·.row.length)).sum := by simp only [mu9, ← HU.out]; simp
              have h8 := HBX.out.2.2.2.2
              simp only [List.map_cons, List.sum_cons, List.length_drop] at s1 s2 h7
              omega
        · have hKe : n - K = 0 := by omega
          simp only [hKe] at HON
          go_wp2_with (first | (go_at_fn fid; refine (HCALL.out _).mono ?_; rintro e W2 ⟨rfl, g2⟩; have G2 := Lib.hid (gA.trans g2); have d2c := HD2.out W2 ((HV.out.1.gr G2.out).nm x (List.mem_cons_self ..)); have k2 := KP.out.later g2.below; have e0 : W2.cell? ⟨wr.heap.size, 0, none⟩ = some (.int .u64 p1) := (k2.cell 0).trans rfl; have e1 : W2.cell? ⟨wr.heap.size, 1, none⟩ = some (.int .u64 p2) := (k2.cell 1).trans rfl; clear g2 k2) | (go_at_call 92; refine (HTK.out _ G2.out).mono ?_; rintro e W3 ⟨rfl, ys1, v3, p3, hp3, b3⟩; have HH3 := Lib.hid ((HV.out.1.gr G2.out).heads b3 (List.mem_cons_self ..)); have d5 := HD0.out W3 HH3.out.2; have HM3 := Lib.hid ((HV.out.1.gr G2.out).midF b3); have H3 := Lib.hid (And.intro v3 (And.intro p3 hp3)); clear v3 p3 hp3 b3) | (go_at_call 93; refine (HON.out W3 HH3.out.1).mono ?_; rintro e W4 ⟨⟨o1, c1, rfl, hc1⟩, b4⟩; have hm4 := HH3.out.2.keep (b4.block _ HH3.out.2.blk.lt); have d6 := HD0.out W4 hm4; obtain ⟨f6, l6⟩ := HD1.out W4 hm4; have HPU := Lib.hid (put_over (H3.out.1.later b4) x (HH3.out.2.keep (b4.block _ HH3.out.2.blk.lt)) (HDD.out _ H3.out.2.1) o1 c1); rw [← HBX.out.1] at HPU; have HB4 := Lib.hid b4; clear hm4 b4 hc1) | (go_at_call 91; refine (HPU.out).mono ?_; rintro e W5 ⟨rfl, v5, m5⟩; have H5 := Lib.hid (And.intro v5 m5); clear v5 m5))
          go_roundg (mu9 fp (x :: tl))
          case measure => omega
          case rel =>
            have hperm := H3.out.2.1
            obtain ⟨j1, _⟩ := (HV.out.2.2.1.perm hperm).cut (fun hm => HDD.out _ hperm (List.mem_map.2 ⟨x, hm, rfl⟩)) (K := K) (fun i hi hk => by simp only [HKS.out.2.1 i hi hk, Bool.and_false])
            refine ⟨fid, m, fp, ys1, c', _, rfl, HF, Lib.hid ⟨H5.out.1, H3.out.2.2, j1 (by have := HBX.out.2.2.2.2; omega), fun y hy q hq => HV.out.2.2.2 y (hperm.mem_iff.1 (by simp [hy])) q hq⟩, HC, Lib.hid (((Mid.gr HM.out G2.out).trans HM3.out).trans ((ButR.of_below HB4.out).trans H5.out.2)), ?_⟩
            have s2 := (hperm.map (·.row.length)).sum_nat
            have h6 := mu9_le fp ys1
            have h7 : mu9 fp (x :: tl) = 2 * ((x :: tl).map (·.row.length)).sum := by simp only [mu9, ← HU.out]; simp
            have h8 := HBX.out.2.2.2.2
            simp only [List.map_cons, List.sum_cons] at s2 h7
            omega
end Go.Proofs.Ytlhigfphfbmbjaa

