/- tiers.Squash. -/
import Derived.Test.YtcapmhmlipmciaaW17
namespace Go.Proofs.Kit
open Go.RowKit
/-- What Squash says. -/
def sqE (L : List Tr) (f t : Int) : Int := if goodT L then (if f < 0 ∨ t > (L.length : Int) ∨ f ≥ t then 2 else 0) else 210
def sqL (L : List Tr) (p q : Nat) : List Tr := L.take p ++ [joinT (decide (p = 0)) ((L.drop p).take (q - p))] ++ L.drop q
def sqR (L : List Tr) (f t : Int) : List Tr := if sqE L f t = 0 then sqL L f.toNat t.toNat else []
theorem SegT.cut {w : World} {b f g n c c' p q : Nat} {L : List Tr} (h : SegT w (.slice (some ⟨b, f, none⟩) n c) L) (hp : p ≤ q) (hq : q ≤ L.length) (hg : p < q → g = f + p * 2) (hc : q - p ≤ c') (hc' : c' ≤ 9223372036854775807) : SegT w (.slice (some ⟨b, g, none⟩) (q - p) c') ((L.drop p).take (q - p)) := by
  obtain ⟨l, h1, h2, h3⟩ := h
  have hl : ((l.drop p).take (q - p)).length = q - p := by simp; omega
  have hb : b < w.heap.size := by
    rcases h1.2 with ⟨e, _⟩ | ⟨b', off, cap, e, _, _, h4, _⟩
    · injection e with e; cases e
    · injection e with e; injection e with e; injection e with e; subst e; exact h4
  have hn := h1.1
  simp only [tiE] at hn
  refine ⟨(l.drop p).take (q - p), ⟨by rw [hl]; simp only [tiE]; omega, .inr ⟨b, g, c', by rw [hl], by omega, hc', hb, fun i hi j u hu => ?_⟩⟩, by rw [hl]; simp; omega, fun i a a' => ?_⟩
  · have hpq : p < q := by omega
    obtain ⟨b', f', e, _, _, _, _, hcell⟩ := h1.has (show p < l.length by omega)
    injection e with e
    injection e with e1 e2
    subst e1 e2
    have hi' : p + i < l.length := by omega
    have := hcell (p + i) hi' j u (by rw [← hu]; simp)
    rw [hg hpq, ← this]
    congr 2
    simp only [tiE]
    omega
  · have := h3 (p + i) (by simp at a; omega) (by simp at a'; omega)
    simpa using this
theorem each_app {tp : TypeId} {B : Nat} {w : World} {l m : List Ti} {L M : List Tr} (h1 : l.length = L.length) (e1 : ∀ i (h : i < l.length) (h' : i < L.length), OwnQ tp B w l[i] L[i]) (e2 : ∀ i (h : i < m.length) (h' : i < M.length), OwnQ tp B w m[i] M[i]) :
    ∀ i (h : i < (l ++ m).length) (h' : i < (L ++ M).length), OwnQ tp B w (l ++ m)[i] (L ++ M)[i] := by
  intro i h h'
  by_cases c : i < l.length
  · rw [List.getElem_append_left c, List.getElem_append_left (by omega)]
    exact e1 i c (by omega)
  · rw [List.getElem_append_right (by omega), List.getElem_append_right (by omega)]
    simp only [← h1]
    exact e2 _ (by simp at h; omega) (by simp at h'; omega)
/-- What lies while the parts are copied. -/
structure SQ (tp tt : TypeId) (w : World) (b8 : Nat) (x : Ti) (t : Tr) (W : World) : Prop where
  k : Blk W b8 #[.slice x.ao x.an x.ac, .slice x.bo x.bn x.bc] tt
  q : OwnQ tp w.heap.size W x t
  low : Below w.heap.size w W
section
variable {tp tt : TypeId} {w W W' : World} {b8 : Nat} {x : Ti} {t : Tr}
theorem SQ.later (h : SQ tp tt w b8 x t W) (hb : Below W.heap.size W W') : SQ tp tt w b8 x t W' := ⟨h.k.later hb, h.q.later hb, below_later h.low hb⟩
theorem SQ.drew (h : SQ tp tt w b8 x t W) : SQ tp tt w b8 x t W.drew := h.later (Below.refl _ _).drew
theorem SQ.al (h : SQ tp tt w b8 x t W) (o : Obj) : SQ tp tt w b8 x t (W.alloc o) := h.later (Gr.alloc _ _).below
end
theorem Blk.new1 (w : World) (o : Obj) (vs : Array Value) (t : TypeId) : Blk ((w.alloc o).alloc (.cells vs t)) (w.heap.size + 1) vs t := by
  have := Blk.new (w.alloc o) vs t
  simpa using this
theorem segE_one {w : World} {b : Nat} {x : Ti} {t : TypeId} (hb : Blk w b #[.slice x.ao x.an x.ac, .slice x.bo x.bn x.bc] t) : SegE tiE w (.slice (some ⟨b, 0, none⟩) 1 1) [x] :=
  SegE.of_blk (E := tiE) (l := [x]) (cap := 1) hb (by simp) (by decide) rfl
end Go.Proofs.Kit
namespace Go.Proofs.Ytcapmhmlipmciaa
open Go.RowKit Go.Proofs.Kit Go.Shelf
set_option maxRecDepth 100000 in
set_option maxHeartbeats 4000000 in
theorem squash_no (v : Value) (L : List Tr) (f t : Int) (w : World) (h : SegT w v L) (hS : SmT 10000 L) (hno : ¬ (goodT L ∧ 0 ≤ f ∧ t ≤ (L.length : Int) ∧ f < t)) :
    Calls Try.prog 26 #[v, .int .i64 f, .int .i64 t] w fun e w' => ∃ v', e = .returned (.tuple #[v', .int .i64 (sqE L f t)]) ∧ OwnT 36 38 w.heap.size w' v' [] ∧ Below w.heap.size w w' := by
  obtain ⟨o, c, rfl, hc, hm⟩ := h.shape
  obtain ⟨n, hn⟩ : ∃ n, n = L.length := ⟨_, rfl⟩
  have hC := check11_any _ L w h (hS.mono (by decide))
  rw [← hn] at hC hno ⊢
  obtain ⟨ck, hck⟩ : ∃ ck, ck = ckT L := ⟨_, rfl⟩
  obtain ⟨se, hse⟩ : ∃ se, se = sqE L f t := ⟨_, rfl⟩
  rw [← hck] at hC
  rw [← hse]
  have HC := Lib.hid hC
  by_cases hg : goodT L
  · have e1 : ck = 0 := hck.trans (ckT_yes hg)
    have hor : f < 0 ∨ t > (n : Int) ∨ f ≥ t := by
      by_cases c1 : f < 0
      · exact .inl c1
      · by_cases c2 : t > (n : Int)
        · exact .inr (.inl c2)
        · exact .inr (.inr (by
            by_cases c3 : f ≥ t
            · exact c3
            · exact (hno ⟨hg, by omega, by omega, by omega⟩).elim))
    have e2 : se = 2 := by rw [hse, sqE, if_pos hg, if_pos (by rw [← hn]; exact hor)]
    subst e1 e2
    clear h hS hno hC hck hse hg hn
    by_cases c1 : f < 0
    · have t1 : decide (f < 0) = true := decide_eq_true c1
      clear hor c1
      go_enter Try.func26, Try.ntmps26
      go_wp2_with fail
      refine HC.out.mono ?_
      rintro e w1 ⟨rfl, b1⟩
      have LOW := Lib.hid b1
      clear b1
      go_wp2
      go_ret2
      exact ⟨_, rfl, OwnT.nil _ _ _ _, LOW.out⟩
    · have t1 : decide (f < 0) = false := decide_eq_false c1
      by_cases c2 : t > (n : Int)
      · have t2 : decide ((n : Int) < t) = true := decide_eq_true (by omega)
        clear hor c1 c2
        go_enter Try.func26, Try.ntmps26
        go_wp2_with fail
        refine HC.out.mono ?_
        rintro e w1 ⟨rfl, b1⟩
        have LOW := Lib.hid b1
        clear b1
        go_wp2
        go_ret2
        exact ⟨_, rfl, OwnT.nil _ _ _ _, LOW.out⟩
      · have t2 : decide ((n : Int) < t) = false := decide_eq_false (by omega)
        have t3 : decide (t ≤ f) = true := decide_eq_true (by omega)
        clear hor c1 c2
        go_enter Try.func26, Try.ntmps26
        go_wp2_with fail
        refine HC.out.mono ?_
        rintro e w1 ⟨rfl, b1⟩
        have LOW := Lib.hid b1
        clear b1
        go_wp2
        go_ret2
        exact ⟨_, rfl, OwnT.nil _ _ _ _, LOW.out⟩
  · have e1 : ck = 210 := hck.trans (ckT_no hg)
    have e2 : se = 210 := by rw [hse, sqE, if_neg hg]
    subst e1 e2
    clear h hS hno hC hck hse hg hn
    go_enter Try.func26, Try.ntmps26
    go_wp2_with fail
    refine HC.out.mono ?_
    rintro e w1 ⟨rfl, b1⟩
    go_wp2
    go_ret2
    exact ⟨_, rfl, OwnT.nil _ _ _ _, b1⟩
set_option maxRecDepth 100000 in
set_option maxHeartbeats 8000000 in
theorem squash_yes (v : Value) (L : List Tr) (p q : Nat) (w : World) (h : SegT w v L) (hW : Wl L) (hS : SmT 10000 L) (hg : goodT L) (hpq : p < q) (hq : q ≤ L.length) :
    Calls Try.prog 26 #[v, .int .i64 (p : Int), .int .i64 (q : Int)] w fun e w' => ∃ v', e = .returned (.tuple #[v', .int .i64 0]) ∧ OwnT 36 38 w.heap.size w' v' (sqL L p q) ∧ Below w.heap.size w w' := by
  obtain ⟨i0, hi, hz0, hz1, hz2⟩ := infoT
  have hmix := mixed
  obtain ⟨o, c, rfl, hc, hm⟩ := h.shape
  obtain ⟨n, hn⟩ : ∃ n, n = L.length := ⟨_, rfl⟩
  obtain ⟨b, f, rfl, _⟩ := h.sub hpq hq
  have hC := check11_any _ L w h (hS.mono (by decide))
  rw [ckT_yes hg] at hC
  rw [← hn] at h hc hq hC ⊢
  have HC := Lib.hid hC
  have HN := Lib.hid hn
  have HA := Lib.hid h
  have HW := Lib.hid hW
  have HS := Lib.hid hS
  have HG := Lib.hid hg
  have t1 : decide ((p : Int) < 0) = false := decide_eq_false (by omega)
  have t2 : decide ((n : Int) < (q : Int)) = false := decide_eq_false (by omega)
  have t3 : decide ((q : Int) ≤ (p : Int)) = false := decide_eq_false (by omega)
  have hcp : ¬ c = p := by omega
  obtain ⟨bo, hbo⟩ : ∃ bo, bo = ((p : Int) == 0) := ⟨_, rfl⟩
  have HBO := Lib.hid (show bo = decide (p = 0) by rw [hbo, Bool.eq_iff_iff, beq_iff_eq, decide_eq_true_eq]; omega)
  clear h hn hC hW hS hg
  go_enter Try.func26, Try.ntmps26
  go_wp2_with fail
  refine HC.out.mono ?_
  rintro e w1 ⟨rfl, b1⟩
  have HA1 := Lib.hid (HA.out.later b1)
  have LOW1 := Lib.hid b1
  clear b1
  go_wp2_with fail
  rw [← hbo]
  have hMl : ((L.drop p).take (q - p)).length = q - p := by have := HN.out; simp; omega
  have hMW : Wl ((L.drop p).take (q - p)) := fun x hx => HW.out x (List.mem_of_mem_drop (List.mem_of_mem_take hx))
  have hMS : SmT 10000 ((L.drop p).take (q - p)) := fun x hx => HS.out x (List.mem_of_mem_drop (List.mem_of_mem_take hx))
  have hn24 : n ≤ 24 := by rw [HN.out]; exact HG.out.2
  refine (joined_any bo _ ((L.drop p).take (q - p)) _ (HA1.out.cut (g := f + p * 2) (by omega) (by rw [← HN.out]; exact hq) (fun _ => rfl) (by omega) (by omega)) hMW 10000 hMS (by rw [hMl]; omega) (by decide) (by rw [hMl]; omega)).mono ?_
  rintro e w2 ⟨x, rfl, q2, b2⟩
  have LOW2 := Lib.hid (below_later LOW1.out b2)
  have Q2 := Lib.hid (q2.mono (B' := w.heap.size) LOW1.out.size)
  clear hMl hMW hMS q2 b2 hbo
  obtain ⟨W3, hW3⟩ : ∃ W3, W3 = w2.alloc (.cells #[.slice x.ao x.an x.ac, .slice x.bo x.bn x.bc] 38) := ⟨_, rfl⟩
  have G3 : Gr w2 W3 := by rw [hW3]; exact Gr.alloc _ _
  have sq : SQ 36 38 w w2.heap.size x (joinT bo ((L.drop p).take (q - p))) W3 := ⟨by rw [hW3]; exact Blk.new _ _ _, Q2.out.later G3.below, below_later LOW2.out G3.below⟩
  have HC1 := Lib.hid (fun W (hb : Below w.heap.size w W) => copied11_any (.slice (some ⟨b, f, none⟩) p c) (L.take p) W (by
    have := (HA.out.later hb).cut (p := 0) (q := p) (g := f) (c' := c) (by omega) (by have := HN.out; omega) (fun _ => by omega) (by omega) (by omega)
    simpa using this) (by have := HN.out; simp; omega) (fun t ht => by have := HS.out t (List.mem_of_mem_take ht); omega))
  obtain ⟨g, hg⟩ : ∃ g, g = if c = q then f else f + q * 2 := ⟨_, rfl⟩
  have HC2 := Lib.hid (fun W (hb : Below w.heap.size w W) => copied11_any (.slice (some ⟨b, g, none⟩) (n - q) (c - q)) (L.drop q) W (by
    have := (HA.out.later hb).cut (p := q) (q := n) (g := g) (c' := c - q) hq (by have := HN.out; omega) (fun _ => by rw [hg, if_neg (by omega)]) (by omega) (by omega)
    rwa [List.take_of_length_le (by have := HN.out; simp; omega)] at this) (by have := HN.out; simp; omega) (fun t ht => by have := HS.out t (List.mem_of_mem_drop ht); omega))
  have HSQL : Hid (sqL L p q = (L.take p ++ [joinT bo ((L.drop p).take (q - p))]) ++ L.drop q) := Lib.hid (by rw [sqL, ← HBO.out])
  obtain ⟨ao, an, ac, bo', bn, bc⟩ := x
  simp only at hW3 sq
  have e0 := sq.k.cell 0
  have e1 := sq.k.cell 1
  have l3 := sq.k.lt
  simp only [List.getElem?_toArray, List.getElem?_cons_zero, List.getElem?_cons_succ] at e0 e1
  clear G3 hcp
  have i1 : (p : Int) ≤ (c : Int) := by omega
  have i2 : (q : Int) ≤ (n : Int) := by omega
  by_cases hcq : c = q
  · obtain rfl : n = q := by omega
    obtain rfl : n = c := hcq.symm
    rw [if_pos rfl] at hg
    obtain rfl : f = g := hg.symm
    simp only [Nat.sub_self] at HC2
    go_upto_region 8 with (fail)
    rw [← hW3]
    clear hW3
    go_region_law (first
      | (go_simp; go_at_call 48; (with_reducible refine (HC1.out _ (by first | exact sq.drew.low | exact (sq.al _).drew.low)).mono ?_); rintro e wS ⟨v1, rfl, hO1, _, bS⟩; (first | have kz := Blk.nwd bS | skip); have hB1 := hO1.mono (B' := w.heap.size) (by first | exact sq.drew.low.size | exact (sq.al _).drew.low.size); obtain ⟨l1, ot1⟩ := hB1.open; obtain ⟨o1, c1, rfl⟩ := ot1.own.shape; have sq := (by first | exact sq.drew.later bS | exact (sq.al _).drew.later bS : SQ 36 38 w w2.heap.size ⟨ao, an, ac, bo', bn, bc⟩ (joinT bo ((L.drop p).take (n - p))) wS); obtain ⟨e0, e1⟩ : wS.cell? ⟨w2.heap.size, 0, none⟩ = some (.slice ao an ac) ∧ wS.cell? ⟨w2.heap.size, 1, none⟩ = some (.slice bo' bn bc) := ⟨sq.k.cell 0, sq.k.cell 1⟩; have l3 := sq.k.lt; clear bS hO1 hB1)
      | (go_simp; go_at_call 48; (with_reducible refine (HC2.out _ (by first | exact sq.low | exact (sq.al _).low)).mono ?_); rintro e wT ⟨v2, rfl, hO2, _, bT⟩; (first | have kz := kz.later bT | have kz := Blk.nw bT | skip); have ot1 := (by first | exact ot1.later bT | exact (ot1.later (Gr.alloc _ _).below).later bT : OT 36 38 w.heap.size wT (.slice o1 l1.length c1) l1 (L.take p)); have hB2 := hO2.mono (B' := w.heap.size) (by first | exact sq.low.size | exact (sq.al _).low.size); obtain ⟨l2, ot2⟩ := hB2.open; obtain ⟨o2, c2, rfl⟩ := ot2.own.shape; have sq := (by first | exact sq.later bT | exact (sq.al _).later bT : SQ 36 38 w w2.heap.size ⟨ao, an, ac, bo', bn, bc⟩ (joinT bo ((L.drop p).take (n - p))) wT); obtain ⟨e0, e1⟩ : wT.cell? ⟨w2.heap.size, 0, none⟩ = some (.slice ao an ac) ∧ wT.cell? ⟨w2.heap.size, 1, none⟩ = some (.slice bo' bn bc) := ⟨sq.k.cell 0, sq.k.cell 1⟩; have l3 := sq.k.lt; clear bT hO2 hB2)
      | (go_simp; go_at_call 50; (with_reducible refine (concatT3 _ _ _ _ l1 [⟨ao, an, ac, bo', bn, bc⟩] l2 _ (by first | exact Blk.new _ _ _ | exact Blk.new1 _ _ _ _) (by first | exact ot1.own.seg.alloc _ | exact (ot1.own.seg.alloc _).alloc _) (by first | exact segE_one (kz.alloc _) | exact segE_one ((Blk.new _ _ _).alloc _)) (by first | exact ot2.own.seg.alloc _ | exact (ot2.own.seg.alloc _).alloc _) (by have h1 := ot1.len; have h2 := HN.out; rw [List.length_take] at h1; omega) (by simp) (by have h1 := ot2.len; have h2 := HN.out; rw [List.length_drop] at h1; omega)).mono ?_); rintro e wU ⟨v', rfl, hU, bU⟩; have hlow := (by first | exact below_later (sq.al _).low bU | exact below_later ((sq.al _).al _).low bU : Below w.heap.size w wU); have hU := hU.mono (B' := w.heap.size) (by first | exact (sq.al _).low.size | exact ((sq.al _).al _).low.size); have sq := (by first | exact (sq.al _).later bU | exact ((sq.al _).al _).later bU : SQ 36 38 w w2.heap.size ⟨ao, an, ac, bo', bn, bc⟩ (joinT bo ((L.drop p).take (n - p))) wU); have ot1 := (by first | exact (ot1.later (Gr.alloc _ _).below).later bU | exact ((ot1.later (Gr.alloc _ _).below).later (Gr.alloc _ _).below).later bU : OT 36 38 w.heap.size wU (.slice o1 l1.length c1) l1 (L.take p)); have ot2 := (by first | exact (ot2.later (Gr.alloc _ _).below).later bU | exact ((ot2.later (Gr.alloc _ _).below).later (Gr.alloc _ _).below).later bU : OT 36 38 w.heap.size wU (.slice o2 l2.length c2) l2 (L.drop n))))
    all_goals
      have hT : OwnT 36 38 w.heap.size wU v' (sqL L p n) := by
        rw [HSQL.out]
        refine ⟨_, hU, by rw [List.length_append, List.length_append, List.length_append, List.length_append, ot1.len, ot2.len]; rfl, ?_⟩
        refine each_app (by rw [List.length_append, List.length_append, ot1.len]; rfl) (each_app ot1.len ot1.each (fun i a b => ?_)) ot2.each
        obtain rfl : i = 0 := by simp at a; omega
        exact sq.q
      have HT := Lib.hid hT
      have HLow := Lib.hid hlow
      clear hT hlow hU ot1 ot2 sq
      go_wp2
      go_ret2
      exact ⟨_, rfl, HT.out, HLow.out⟩
  · rw [if_neg hcq] at hg
    obtain rfl : f + q * 2 = g := hg.symm
    go_upto_region 8 with (fail)
    rw [← hW3]
    clear hW3
    go_region_law (first
      | (go_simp; go_at_call 48; (with_reducible refine (HC1.out _ (by first | exact sq.drew.low | exact (sq.al _).drew.low)).mono ?_); rintro e wS ⟨v1, rfl, hO1, _, bS⟩; (first | have kz := Blk.nwd bS | skip); have hB1 := hO1.mono (B' := w.heap.size) (by first | exact sq.drew.low.size | exact (sq.al _).drew.low.size); obtain ⟨l1, ot1⟩ := hB1.open; obtain ⟨o1, c1, rfl⟩ := ot1.own.shape; have sq := (by first | exact sq.drew.later bS | exact (sq.al _).drew.later bS : SQ 36 38 w w2.heap.size ⟨ao, an, ac, bo', bn, bc⟩ (joinT bo ((L.drop p).take (q - p))) wS); obtain ⟨e0, e1⟩ : wS.cell? ⟨w2.heap.size, 0, none⟩ = some (.slice ao an ac) ∧ wS.cell? ⟨w2.heap.size, 1, none⟩ = some (.slice bo' bn bc) := ⟨sq.k.cell 0, sq.k.cell 1⟩; have l3 := sq.k.lt; clear bS hO1 hB1)
      | (go_simp; go_at_call 48; (with_reducible refine (HC2.out _ (by first | exact sq.low | exact (sq.al _).low)).mono ?_); rintro e wT ⟨v2, rfl, hO2, _, bT⟩; (first | have kz := kz.later bT | have kz := Blk.nw bT | skip); have ot1 := (by first | exact ot1.later bT | exact (ot1.later (Gr.alloc _ _).below).later bT : OT 36 38 w.heap.size wT (.slice o1 l1.length c1) l1 (L.take p)); have hB2 := hO2.mono (B' := w.heap.size) (by first | exact sq.low.size | exact (sq.al _).low.size); obtain ⟨l2, ot2⟩ := hB2.open; obtain ⟨o2, c2, rfl⟩ := ot2.own.shape; have sq := (by first | exact sq.later bT | exact (sq.al _).later bT : SQ 36 38 w w2.heap.size ⟨ao, an, ac, bo', bn, bc⟩ (joinT bo ((L.drop p).take (q - p))) wT); obtain ⟨e0, e1⟩ : wT.cell? ⟨w2.heap.size, 0, none⟩ = some (.slice ao an ac) ∧ wT.cell? ⟨w2.heap.size, 1, none⟩ = some (.slice bo' bn bc) := ⟨sq.k.cell 0, sq.k.cell 1⟩; have l3 := sq.k.lt; clear bT hO2 hB2)
      | (go_simp; go_at_call 50; (with_reducible refine (concatT3 _ _ _ _ l1 [⟨ao, an, ac, bo', bn, bc⟩] l2 _ (by first | exact Blk.new _ _ _ | exact Blk.new1 _ _ _ _) (by first | exact ot1.own.seg.alloc _ | exact (ot1.own.seg.alloc _).alloc _) (by first | exact segE_one (kz.alloc _) | exact segE_one ((Blk.new _ _ _).alloc _)) (by first | exact ot2.own.seg.alloc _ | exact (ot2.own.seg.alloc _).alloc _) (by have h1 := ot1.len; have h2 := HN.out; rw [List.length_take] at h1; omega) (by simp) (by have h1 := ot2.len; have h2 := HN.out; rw [List.length_drop] at h1; omega)).mono ?_); rintro e wU ⟨v', rfl, hU, bU⟩; have hlow := (by first | exact below_later (sq.al _).low bU | exact below_later ((sq.al _).al _).low bU : Below w.heap.size w wU); have hU := hU.mono (B' := w.heap.size) (by first | exact (sq.al _).low.size | exact ((sq.al _).al _).low.size); have sq := (by first | exact (sq.al _).later bU | exact ((sq.al _).al _).later bU : SQ 36 38 w w2.heap.size ⟨ao, an, ac, bo', bn, bc⟩ (joinT bo ((L.drop p).take (q - p))) wU); have ot1 := (by first | exact (ot1.later (Gr.alloc _ _).below).later bU | exact ((ot1.later (Gr.alloc _ _).below).later (Gr.alloc _ _).below).later bU : OT 36 38 w.heap.size wU (.slice o1 l1.length c1) l1 (L.take p)); have ot2 := (by first | exact (ot2.later (Gr.alloc _ _).below).later bU | exact ((ot2.later (Gr.alloc _ _).below).later (Gr.alloc _ _).below).later bU : OT 36 38 w.heap.size wU (.slice o2 l2.length c2) l2 (L.drop q))))
    all_goals
      have hT : OwnT 36 38 w.heap.size wU v' (sqL L p q) := by
        rw [HSQL.out]
        refine ⟨_, hU, by rw [List.length_append, List.length_append, List.length_append, List.length_append, ot1.len, ot2.len]; rfl, ?_⟩
        refine each_app (by rw [List.length_append, List.length_append, ot1.len]; rfl) (each_app ot1.len ot1.each (fun i a b => ?_)) ot2.each
        obtain rfl : i = 0 := by simp at a; omega
        exact sq.q
      have HT := Lib.hid hT
      have HLow := Lib.hid hlow
      clear hT hlow hU ot1 ot2 sq
      go_wp2
      go_ret2
      exact ⟨_, rfl, HT.out, HLow.out⟩
theorem squash_any (v : Value) (L : List Tr) (f t : Int) (w : World) (h : SegT w v L) (hW : Wl L) (hS : SmT 10000 L) :
    Calls Try.prog 26 #[v, .int .i64 f, .int .i64 t] w fun e w' => ∃ v', e = .returned (.tuple #[v', .int .i64 (sqE L f t)]) ∧ OwnT 36 38 w.heap.size w' v' (sqR L f t) ∧ Below w.heap.size w w' := by
  by_cases c : goodT L ∧ 0 ≤ f ∧ t ≤ (L.length : Int) ∧ f < t
  · obtain ⟨hg, h0, h1, h2⟩ := c
    have e : sqE L f t = 0 := by rw [sqE, if_pos hg, if_neg (by omega)]
    rw [sqR, e, if_pos rfl]
    have := squash_yes v L f.toNat t.toNat w h hW hS hg (by omega) (by omega)
    rwa [Int.toNat_of_nonneg h0, Int.toNat_of_nonneg (by omega)] at this
  · have e : sqE L f t ≠ 0 := by
      unfold sqE
      split
      · rename_i hg
        rw [if_pos]
        · decide
        · by_cases a1 : f < 0
          · exact .inl a1
          · by_cases a2 : t > (L.length : Int)
            · exact .inr (.inl a2)
            · exact .inr (.inr (by
                by_cases a3 : f ≥ t
                · exact a3
                · exact (c ⟨hg, by omega, by omega, by omega⟩).elim))
      · decide
    rw [sqR, if_neg e]
    exact squash_no v L f t w h hS c
end Go.Proofs.Ytcapmhmlipmciaa

