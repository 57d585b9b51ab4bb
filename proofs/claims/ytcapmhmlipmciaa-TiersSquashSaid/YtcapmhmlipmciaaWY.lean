import Derived.Test.YtcapmhmlipmciaaWZ
import Derived.Test.YtcapmhmlipmciaaW22
import Derived.Test.YtcapmhmlipmciaaW20
import Derived.Deep.CutBlock
/- The reference: colanderref11.Joined, Squash. -/
namespace Go.Proofs.Ytcapmhmlipmciaa
open Go.RowKit Go.Proofs.Kit
set_option maxRecDepth 100000 in
set_option maxHeartbeats 4000000 in
theorem ejoined_any (o : Bool) (v : Value) (L : List Tr) (w : World) (h : SegT w v L) (m : Nat) (hS : SmT m L) (hb : L.length * (2 * m) ≤ 1000) (hm : m ≤ 1000) (hd : ∀ t ∈ L, ∀ p ∈ t.1, p ∉ t.2) :
    Calls Try.prog 30 #[v, .bool o] w fun e w' => ∃ x : Ti, e = .returned (.agg #[.slice x.ao x.an x.ac, .slice x.bo x.bn x.bc]) ∧ OwnQ 36 w.heap.size w' x (joinT o L) ∧ Below w.heap.size w w' := by
  have hbd : ∀ (a b c : _) w, (Instr.build 38 #[(0, .slice a b c)]).run Try.prog w = .ok (.agg #[.slice a b c, .slice none 0 0]) w := fun a b c w => by kernel_rfl
  have HBD := Lib.hid hbd
  clear hbd
  obtain ⟨oo, c, rfl, _, _⟩ := h.shape
  obtain ⟨n, hnl⟩ : ∃ n, n = L.length := ⟨_, rfl⟩
  rw [← hnl] at h ⊢
  have HT := Lib.hid (fun s W (hb' : Below w.heap.size w W) => those_any _ L s W (h.later hb') m hS hb hm hd)
  have HSEG := Lib.hid h
  clear h hS hd hb hm hnl
  go_enter Try.func30, Try.ntmps30
  go_wp2_with fail
  obtain ⟨W1, hW1⟩ : ∃ W1, W1 = w.alloc (.cells #[.slice none 0 0, .slice none 0 0] 38) := ⟨_, rfl⟩
  have G1 : Gr w W1 := by rw [hW1]; exact Gr.alloc _ _
  have kr : Blk W1 w.heap.size #[.slice none 0 0, .slice none 0 0] 38 := by rw [hW1]; exact Blk.new _ _ _
  rw [← hW1]
  clear hW1
  refine (HT.out 1 _ G1.below).mono ?_
  rintro e w2 ⟨v2, rfl, o2, b2⟩
  have KR2 := Lib.hid (kr.later b2)
  have E2 := Lib.hid (below_later G1.below b2)
  have A2 := Lib.hid (o2.mono (B' := w.heap.size) G1.below.size)
  obtain ⟨ao, an, ac, rfl⟩ := o2.any
  clear o2 b2 kr G1
  have hbd := HBD.out
  obtain ⟨W3, hW3⟩ : ∃ W3, W3 = w2.alloc (.cells #[.slice ao an ac, .slice none 0 0] 38) := ⟨_, rfl⟩
  have G3 : Gr w2 W3 := by rw [hW3]; exact Gr.alloc _ _
  have kt : Blk W3 w2.heap.size #[.slice ao an ac, .slice none 0 0] 38 := by rw [hW3]; exact Blk.new _ _ _
  have KT3 := Lib.hid kt
  have KR3 := Lib.hid (KR2.out.later G3.below)
  have E3 := Lib.hid (below_later E2.out G3.below)
  have A3 := Lib.hid (A2.out.later G3.below)
  have hne : w2.heap.size ≠ w.heap.size := by have := KR2.out.lt; omega
  have hle := E2.out.size
  go_upto_region 2 with (fail)
  rw [← hW3]
  clear hW3 hbd kt G3
  cases o
  · go_wp2_with fail
    refine (HT.out 2 _ E3.out).mono ?_
    rintro e w4 ⟨v4, rfl, o4, b4⟩
    have kt4 := KT3.out.later b4
    have kr4 := KR3.out.later b4
    have E4 := Lib.hid (below_later E3.out b4)
    have A4 := Lib.hid (A3.out.later b4)
    have B4 := Lib.hid (o4.mono (B' := w.heap.size) E3.out.size)
    obtain ⟨bo, bn, bc, rfl⟩ := o4.any
    have l4 := kt4.lt
    have d1 := kt4.cell 1
    have f1 := kt4.frozen 1
    simp only [List.getElem?_toArray, List.getElem?_cons_zero, List.getElem?_cons_succ] at d1
    have K5 : Blk (w4.setCell ⟨w2.heap.size, 1, none⟩ (.slice bo bn bc)) w2.heap.size #[.slice ao an ac, .slice bo bn bc] 38 := by
      have := kt4.set 1 (.slice bo bn bc)
      simpa using this
    have R5 := Lib.hid (kr4.other (p := ⟨w2.heap.size, 1, none⟩) (fun e => hne e.symm) (.slice bo bn bc))
    have E5 := Lib.hid (E4.out.setCell (p := ⟨w2.heap.size, 1, none⟩) hle (.slice bo bn bc))
    have A5 := Lib.hid (A4.out.otherB kt4 (by decide) 1 (.slice bo bn bc))
    have B5 := Lib.hid (B4.out.otherB kt4 (by decide) 1 (.slice bo bn bc))
    obtain ⟨W5, hW5⟩ : ∃ W5, W5 = w4.setCell ⟨w2.heap.size, 1, none⟩ (.slice bo bn bc) := ⟨_, rfl⟩
    rw [← hW5] at K5 R5 E5 A5 B5
    clear o4 b4 kt4 kr4
    go_upto_region 4 with (fail)
    rw [← hW5]
    clear hW5 l4 d1 f1
    have c0 := R5.out.cell 0
    have c1 := R5.out.cell 1
    have f0 := R5.out.frozen 0
    have f1 := R5.out.frozen 1
    have l0 := R5.out.lt
    have d0 := K5.cell 0
    have d1 := K5.cell 1
    have l1 := K5.lt
    simp only [List.getElem?_toArray, List.getElem?_cons_zero, List.getElem?_cons_succ] at c0 c1 d0 d1
    clear K5
    go_wp2
    have kf := R5.out.setT (u := .slice ao an ac) (v := .slice bo bn bc)
    have C0 := kf.cell 0
    have C1 := kf.cell 1
    simp only [List.getElem?_toArray, List.getElem?_cons_zero, List.getElem?_cons_succ] at C0 C1
    refine bodyPost_ret (v := .agg #[.slice ao an ac, .slice bo bn bc]) (by simp [results, Try.results30, go_sem, C0, C1]) rfl ⟨⟨ao, an, ac, bo, bn, bc⟩, rfl, ⟨?_, ?_⟩, (E5.out.setCell (by simp) _).setCell (by simp) _⟩
    · exact A5.out.otherB2 R5.out (by decide) 0 1 (.slice ao an ac) (.slice bo bn bc)
    · exact B5.out.otherB2 R5.out (by decide) 0 1 (.slice ao an ac) (.slice bo bn bc)
  · have c0 := KR3.out.cell 0
    have c1 := KR3.out.cell 1
    have f0 := KR3.out.frozen 0
    have f1 := KR3.out.frozen 1
    have l0 := KR3.out.lt
    have d0 := KT3.out.cell 0
    have d1 := KT3.out.cell 1
    have l1 := KT3.out.lt
    simp only [List.getElem?_toArray, List.getElem?_cons_zero, List.getElem?_cons_succ] at c0 c1 d0 d1
    go_wp2
    have kf := KR3.out.setT (u := .slice ao an ac) (v := .slice none 0 0)
    have C0 := kf.cell 0
    have C1 := kf.cell 1
    simp only [List.getElem?_toArray, List.getElem?_cons_zero, List.getElem?_cons_succ] at C0 C1
    refine bodyPost_ret (v := .agg #[.slice ao an ac, .slice none 0 0]) (by simp [results, Try.results30, go_sem, C0, C1]) rfl ⟨⟨ao, an, ac, none, 0, 0⟩, rfl, ⟨?_, OwnP.nil _ _ _⟩, (E3.out.setCell (by simp) _).setCell (by simp) _⟩
    exact A3.out.otherB2 KR3.out (by decide) 0 1 (.slice ao an ac) (.slice none 0 0)
theorem tr_app {w : World} {l m : List Ti} {L M : List Tr} (h1 : l.length = L.length) (e1 : ∀ i (h : i < l.length) (h' : i < L.length), TR w l[i] L[i]) (e2 : ∀ i (h : i < m.length) (h' : i < M.length), TR w m[i] M[i]) :
    ∀ i (h : i < (l ++ m).length) (h' : i < (L ++ M).length), TR w (l ++ m)[i] (L ++ M)[i] := by
  intro i h h'
  by_cases c : i < l.length
  · rw [List.getElem_append_left c, List.getElem_append_left (by omega)]
    exact e1 i c (by omega)
  · rw [List.getElem_append_right (by omega), List.getElem_append_right (by omega)]
    simp only [← h1]
    exact e2 _ (by simp at h; omega) (by simp at h'; omega)
theorem ownQ_grown {tp tt : TypeId} {B : Nat} {w w' : World} {x : Ti} {t : Tr} {v : Value} {l : List Ti} (h : OwnQ tp B w x t) (ho : OwnE tiE tt B w v l) (hg : w.grownBy w' v.ownBlock) (ht : tp ≠ tt) : OwnQ tp B w' x t :=
  ⟨h.1.grown hg (fun k hk e => h.1.apart ho ht k hk e), h.2.grown hg (fun k hk e => h.2.apart ho ht k hk e)⟩
set_option maxRecDepth 100000 in
set_option maxHeartbeats 8000000 in
theorem esquash_any (v : Value) (L : List Tr) (p q : Nat) (w : World) (h : SegT w v L) (hS : SmT 16 L) (hg : goodT L) (hpq : p < q) (hq : q ≤ L.length) :
    Calls Try.prog 27 #[v, .int .i64 (p : Int), .int .i64 (q : Int)] w fun e w' => ∃ v', e = .returned v' ∧ SegT w' v' (sqL L p q) ∧ Below w.heap.size w w' := by
  obtain ⟨i0, hi, hz0, hz1, hz2⟩ := infoT
  have hmix := mixed
  obtain ⟨o, c, rfl, hc, hm⟩ := h.shape
  obtain ⟨n, hn⟩ : ∃ n, n = L.length := ⟨_, rfl⟩
  obtain ⟨b, f, rfl, _⟩ := h.sub hpq hq
  have hn24 : n ≤ 24 := by rw [hn]; exact hg.2
  rw [← hn] at h hc hq ⊢
  have HN := Lib.hid hn
  have HA := Lib.hid h
  have HS := Lib.hid hS
  have HG := Lib.hid hg
  have hcp : ¬ c = p := by omega
  obtain ⟨bo, hbo⟩ : ∃ bo, bo = ((p : Int) == 0) := ⟨_, rfl⟩
  have HBO := Lib.hid (show bo = decide (p = 0) by rw [hbo, Bool.eq_iff_iff, beq_iff_eq, decide_eq_true_eq]; omega)
  have HSA := Lib.hid (fun W (hb : Below w.heap.size w W) => (by
    have := (HA.out.later hb).cut (p := 0) (q := p) (g := f) (c' := c) (by omega) (by have := HN.out; omega) (fun _ => by omega) (by omega) (by omega)
    simpa using this : SegT W (.slice (some ⟨b, f, none⟩) p c) (L.take p)))
  obtain ⟨g, hgg⟩ : ∃ g, g = if c = q then f else f + q * 2 := ⟨_, rfl⟩
  have HSC := Lib.hid (fun W (hb : Below w.heap.size w W) => (by
    have := (HA.out.later hb).cut (p := q) (q := n) (g := g) (c' := c - q) hq (by have := HN.out; omega) (fun _ => by rw [hgg, if_neg (by omega)]) (by omega) (by omega)
    rwa [List.take_of_length_le (by have := HN.out; simp; omega)] at this : SegT W (.slice (some ⟨b, g, none⟩) (n - q) (c - q)) (L.drop q)))
  have i1 : (p : Int) ≤ (c : Int) := by omega
  have i2 : (q : Int) ≤ (n : Int) := by omega
  have i3 : (p : Int) ≤ (n : Int) := by omega
  have i4 : (p : Int) ≤ (q : Int) := by omega
  have i5 : (q : Int) ≤ (c : Int) := by omega
  have HMS : Hid (SmT 16 ((L.drop p).take (q - p))) := Lib.hid (sub_s hS)
  have HMD : Hid (∀ t ∈ (L.drop p).take (q - p), ∀ x ∈ t.1, x ∉ t.2) := Lib.hid (fun t ht => (hg.1 t (List.mem_of_mem_drop (List.mem_of_mem_take ht))).2)
  have HML : Hid (((L.drop p).take (q - p)).length ≤ 24) := Lib.hid (by have := HN.out; simp; omega)
  have HSQL : Hid (sqL L p q = (L.take p ++ [joinT bo ((L.drop p).take (q - p))]) ++ L.drop q) := Lib.hid (by rw [sqL, ← HBO.out])
  obtain ⟨l1, hl1⟩ : ∃ l1 : List Ti, SegE tiE w (.slice (some ⟨b, f, none⟩) p c) l1 ∧ l1.length = (L.take p).length ∧ ∀ i (h : i < l1.length) (h' : i < (L.take p).length), TR w l1[i] (L.take p)[i] := HSA.out w (Below.refl _ _)
  have HL1 := Lib.hid hl1
  have l1n : l1.length ≤ 24 := by have h1 := hl1.2.1; have := HN.out; rw [List.length_take] at h1; omega
  clear h hn hS hg hl1
  go_enter Try.func27, Try.ntmps27
  go_wp2_with (at_builtin; refine wpList_append_segE (E := tiE) rfl _ _ 22 rfl w.heap.size 38 i0 (.agg #[.slice none 0 0, .slice none 0 0]) 48 Try.underlying22 hi hz0 hz1 hz2 rfl _ [] rfl (OwnE.new (E := tiE) (t := 38) (B := w.heap.size) (w := w) (l := []) (vs := #[]) (Nat.le_refl _) rfl (by simp)) _ l1 rfl (HL1.out.1.alloc _) ?q1 ?q2 ?q3 ?_)
  case q1 => show (_ + _) * 2 ≤ _; simp; omega
  case q2 => show (_ + _) * 48 ≤ _; simp; omega
  case q3 => simp
  intro v1 w1 hO1 hb1 hg1
  have E1 := Lib.hid (((Gr.alloc w (.cells #[] 38)).below).trans hb1)
  have O1 := Lib.hid hO1
  obtain ⟨o1, c1, rfl, _, _⟩ := hO1.shape
  have HJ := Lib.hid (fun W (hb : Below w.heap.size w W) => ejoined_any bo (.slice (some ⟨b, f + p * 2, none⟩) (q - p) (c - p)) ((L.drop p).take (q - p)) W ((HA.out.later hb).cut (g := f + p * 2) (by omega) (by rw [← HN.out]; exact hq) (fun _ => rfl) (by omega) (by omega)) 16 HMS.out (by have := HML.out; omega) (by decide) HMD.out)
  clear hO1 hb1 hg1
  go_wp2_with fail
  rw [← hbo]
  refine (HJ.out _ E1.out).mono ?_
  rintro e w2 ⟨x, rfl, q2, b2⟩
  have Q2 := Lib.hid (q2.mono (B' := w.heap.size) E1.out.size)
  have E2 := Lib.hid (below_later E1.out b2)
  have O2 := Lib.hid (O1.out.later b2)
  obtain ⟨ao, an, ac, bo', bn, bc⟩ := x
  clear q2 b2 HJ
  have gA := (Gr.alloc w2 (.cells #[.slice ao an ac, .slice bo' bn bc] 38)).below
  have HGA := Lib.hid gA
  clear gA
  go_wp2_with (at_builtin; refine wpList_append_segE (E := tiE) rfl _ _ 22 rfl w.heap.size 38 i0 (.agg #[.slice none 0 0, .slice none 0 0]) 48 Try.underlying22 hi hz0 hz1 hz2 rfl _ l1 rfl (O2.out.later HGA.out) _ [⟨ao, an, ac, bo', bn, bc⟩] rfl (segE_one (x := ⟨ao, an, ac, bo', bn, bc⟩) (Blk.new _ _ _)) ?q4 ?q5 ?q6 ?_)
  case q4 => show (_ + 1) * 2 ≤ _; omega
  case q5 => show (_ + 1) * 48 ≤ _; omega
  case q6 => have := E2.out.size; simp; omega
  intro v3 w3 hO3 hb3 hg3
  have E3 := Lib.hid ((E2.out.alloc E2.out.size _).trans hb3)
  have O3 := Lib.hid hO3
  have Q3 := Lib.hid (ownQ_grown (Q2.out.later HGA.out) (O2.out.later HGA.out) hg3 (by decide))
  obtain ⟨o3, c3, rfl, _, _⟩ := hO3.shape
  obtain ⟨l3, hl3⟩ : ∃ l3 : List Ti, SegE tiE w (.slice (some ⟨b, g, none⟩) (n - q) (c - q)) l3 ∧ l3.length = (L.drop q).length ∧ ∀ i (h : i < l3.length) (h' : i < (L.drop q).length), TR w l3[i] (L.drop q)[i] := HSC.out w (Below.refl _ _)
  have HL3 := Lib.hid hl3
  have l3n : l3.length ≤ 24 := by have h1 := hl3.2.1; have := HN.out; rw [List.length_drop] at h1; omega
  clear hO3 hb3 hg3 hl3
  by_cases hcq : c = q
  · obtain rfl : n = q := by omega
    obtain rfl : n = c := hcq.symm
    rw [if_pos rfl] at hgg
    obtain rfl : f = g := hgg.symm
    simp only [Nat.sub_self] at HL3
    go_wp2_with (at_builtin; refine wpList_append_segE (E := tiE) rfl _ _ 22 rfl w.heap.size 38 i0 (.agg #[.slice none 0 0, .slice none 0 0]) 48 Try.underlying22 hi hz0 hz1 hz2 rfl _ _ rfl O3.out _ l3 rfl (HL3.out.1.later E3.out) ?q7 ?q8 ?q9 ?_)
    case q7 => show (_ + _) * 2 ≤ _; first | omega | (simp; omega)
    case q8 => show (_ + _) * 48 ≤ _; first | omega | (simp; omega)
    case q9 => exact E3.out.size
    intro v4 w4 hO4 hb4 hg4
    have hlow := E3.out.trans hb4
    have hq4 := ownQ_grown Q3.out O3.out (by simpa using hg4) (by decide)
    have hT : SegT w4 v4 (sqL L p n) := by
      rw [HSQL.out]
      have hO5 : OwnE tiE 38 w.heap.size w4 v4 ((l1 ++ [⟨ao, an, ac, bo', bn, bc⟩]) ++ l3) := by simpa using hO4
      refine ⟨_, hO5.seg, by rw [List.length_append, List.length_append, List.length_append, List.length_append, HL1.out.2.1, HL3.out.2.1]; rfl, ?_⟩
      refine tr_app (by rw [List.length_append, List.length_append, HL1.out.2.1]; rfl) (tr_app HL1.out.2.1 (fun i a b => (HL1.out.2.2 i a b).later hlow) (fun i a b => ?_)) (fun i a b => (HL3.out.2.2 i a b).later hlow)
      obtain rfl : i = 0 := by simp at a; omega
      exact hq4.tr
    have HT := Lib.hid hT
    have HLow := Lib.hid hlow
    obtain ⟨o5, c5, rfl, _, _⟩ := hT.shape
    clear hT hlow hO4 hb4 hg4 hq4
    go_wp2
    go_ret
    exact ⟨_, rfl, HT.out, HLow.out⟩
  · rw [if_neg hcq] at hgg
    obtain rfl : f + q * 2 = g := hgg.symm
    go_wp2_with (at_builtin; refine wpList_append_segE (E := tiE) rfl _ _ 22 rfl w.heap.size 38 i0 (.agg #[.slice none 0 0, .slice none 0 0]) 48 Try.underlying22 hi hz0 hz1 hz2 rfl _ _ rfl O3.out _ l3 rfl (HL3.out.1.later E3.out) ?q7 ?q8 ?q9 ?_)
    case q7 => show (_ + _) * 2 ≤ _; first | omega | (simp; omega)
    case q8 => show (_ + _) * 48 ≤ _; first | omega | (simp; omega)
    case q9 => exact E3.out.size
    intro v4 w4 hO4 hb4 hg4
    have hlow := E3.out.trans hb4
    have hq4 := ownQ_grown Q3.out O3.out (by simpa using hg4) (by decide)
    have hT : SegT w4 v4 (sqL L p q) := by
      rw [HSQL.out]
      have hO5 : OwnE tiE 38 w.heap.size w4 v4 ((l1 ++ [⟨ao, an, ac, bo', bn, bc⟩]) ++ l3) := by simpa using hO4
      refine ⟨_, hO5.seg, by rw [List.length_append, List.length_append, List.length_append, List.length_append, HL1.out.2.1, HL3.out.2.1]; rfl, ?_⟩
      refine tr_app (by rw [List.length_append, List.length_append, HL1.out.2.1]; rfl) (tr_app HL1.out.2.1 (fun i a b => (HL1.out.2.2 i a b).later hlow) (fun i a b => ?_)) (fun i a b => (HL3.out.2.2 i a b).later hlow)
      obtain rfl : i = 0 := by simp at a; omega
      exact hq4.tr
    have HT := Lib.hid hT
    have HLow := Lib.hid hlow
    obtain ⟨o5, c5, rfl, _, _⟩ := hT.shape
    clear hT hlow hO4 hb4 hg4 hq4
    go_wp2
    go_ret
    exact ⟨_, rfl, HT.out, HLow.out⟩
end Go.Proofs.Ytcapmhmlipmciaa


/- TiersSquash' walk. -/
namespace Go.Proofs.Ytcapmhmlipmciaa
open Go.RowKit Go.Proofs.Kit Go.Shelf
theorem goodT_two (t u : Tr) : goodT [t, u] ↔ oneT t ∧ oneT u := by
  refine ⟨fun h => ⟨h.1 _ (by simp), h.1 _ (by simp)⟩, fun h => good_two h.1 h.2⟩
set_option maxRecDepth 100000 in
set_option maxHeartbeats 16000000 in
theorem sq_true (o : Option Addr) (n c : Nat) (X : List Tr) (w : World) (hl : X.length = n) (hc : n ≤ c) (hm : c ≤ 9223372036854775807) (ha : ArgT w o c X) (hw : Wl X) (f t : Int) (old : Bool) :
    Calls Try.prog 5 #[.slice o n c, .agg #[.int .i64 f, .int .i64 t], .bool old] w fun e w' => e = .returned (.bool true) ∧ Below w.heap.size w w' := by
  have HA := Lib.hid (fun W (hb : Below w.heap.size w W) => own11_any o n c X W hl hc hm (ha.later hb))
  obtain ⟨L, hL⟩ : ∃ L, L = ownL X := ⟨_, rfl⟩
  rw [← hL] at HA
  have HW := Lib.hid (show Wl L by rw [hL]; exact ownL_w hw)
  have HS := Lib.hid (show SmT 16 L by rw [hL]; exact ownL_s X)
  have HL26 := Lib.hid (show L.length ≤ 26 by rw [hL]; exact ownL_len X)
  clear hL hl ha hw
  go_enter Try.func5, Try.ntmps5
  go_wp2_with fail
  have k0 := Blk.new w #[.int .i64 f, .int .i64 t] (48)
  have G0 := Gr.alloc w (.cells #[.int .i64 f, .int .i64 t] (48))
  refine (wakes11_true _).mono ?_
  rintro e w1 ⟨rfl, b1⟩
  have K1 := Lib.hid (k0.later b1)
  have L1 := Lib.hid (below_later G0.below b1)
  clear k0 G0 b1
  go_wp2_with fail
  refine (HA.out _ L1.out).mono ?_
  rintro e w5 ⟨v2, rfl, o2, b2⟩
  have K5 := Lib.hid (K1.out.later b2)
  have L5 := Lib.hid (below_later L1.out b2)
  have S5 := Lib.hid o2.seg
  obtain ⟨ol, cl, rfl, hcl, hml⟩ := o2.seg.shape
  obtain ⟨nl, hnl⟩ : ∃ nl, nl = L.length := ⟨_, rfl⟩
  rw [← hnl] at S5 hcl ⊢
  have HNL := Lib.hid hnl
  have hn26 : nl ≤ 26 := by have := HL26.out; omega
  obtain ⟨se, hse⟩ : ∃ se, se = sqE L f t := ⟨_, rfl⟩
  have HSQ := Lib.hid (squash_any _ L f t w5 S5.out HW.out (HS.out.mono (by decide)))
  rw [← hse] at HSQ
  have HSE := Lib.hid hse
  have e0 := K5.out.cell 0
  have e1 := K5.out.cell 1
  have l5 := K5.out.lt
  simp only [List.getElem?_toArray, List.getElem?_cons_zero, List.getElem?_cons_succ] at e0 e1
  clear o2 b2 hnl hse K1 L1
  go_wp2_with fail
  refine HSQ.out.mono ?_
  rintro e w6 ⟨v6, rfl, o6, b6⟩
  have E6 := Lib.hid b6
  have O6 := Lib.hid o6
  have K6 := Lib.hid (K5.out.later b6)
  have L6 := Lib.hid (below_later L5.out b6)
  have S6 := Lib.hid (S5.out.later b6)
  obtain ⟨oq, cq, rfl, _, _⟩ := o6.seg.shape
  obtain ⟨nq, hnq⟩ : ∃ nq, nq = (sqR L f t).length := ⟨_, rfl⟩
  rw [← hnq] at O6 ⊢
  have e0 := K6.out.cell 0
  have e1 := K6.out.cell 1
  have l6 := K6.out.lt
  simp only [List.getElem?_toArray, List.getElem?_cons_zero, List.getElem?_cons_succ] at e0 e1
  clear o6 b6 hnq HSQ l5
  go_upto_block 0 with fail
  go_cut [10, 11] from 30 to 58 (fun s10 s11 wx => ∃ ow nw cw, s10 = .slice ow nw cw ∧ s11 = .int .i64 se ∧ Hid (SegT wx (.slice ow nw cw) (sqR L f t) ∧ Below w6.heap.size w6 wx))
  case first =>
    have HR := Lib.hid (fun r hr => right11_any _ L w6 S6.out (HS.out.mono (by decide)) r hr)
    obtain ⟨r, hr⟩ : ∃ r, r = decide (goodT L) := ⟨_, rfl⟩
    have HRR := Lib.hid hr
    clear hr
    go_wp2_with fail
    refine (HR.out r HRR.out).mono ?_
    rintro e w7 ⟨rfl, b7⟩
    have E7 := Lib.hid b7
    have K7 := Lib.hid (K6.out.later b7)
    have L7 := Lib.hid (below_later L6.out b7)
    have e0 := K7.out.cell 0
    have e1 := K7.out.cell 1
    have l7 := K7.out.lt
    simp only [List.getElem?_toArray, List.getElem?_cons_zero, List.getElem?_cons_succ] at e0 e1
    clear b7 HR
    cases r
    · have hng := of_decide_eq_false HRR.out.symm
      have hp : se = 210 := by rw [HSE.out, sqE, if_neg hng]
      have hq : sqR L f t = [] := by rw [sqR, ← HSE.out, hp, if_neg (by decide)]
      have HQ := Lib.hid hq
      subst hp
      clear hng hq
      go_wp2_with fail
      go_meet
      case rel => exact ⟨_, _, _, rfl, rfl, Lib.hid ⟨by rw [HQ.out]; exact SegT.nil _, E7.out⟩⟩
    · have hg := of_decide_eq_true HRR.out.symm
      have HG := Lib.hid hg
      clear hg
      by_cases hbad : f < 0 ∨ t > (nl : Int) ∨ f ≥ t
      · have hp : se = 2 := by rw [HSE.out, sqE, if_pos HG.out, if_pos (by rw [← HNL.out]; exact hbad)]
        have hq : sqR L f t = [] := by rw [sqR, ← HSE.out, hp, if_neg (by decide)]
        have HQ := Lib.hid hq
        subst hp
        clear hq
        by_cases h1 : f < 0
        · have t1 : decide (f < 0) = true := decide_eq_true h1
          clear hbad h1
          go_wp2_with fail
          go_meet
          case rel => exact ⟨_, _, _, rfl, rfl, Lib.hid ⟨by rw [HQ.out]; exact SegT.nil _, E7.out⟩⟩
        · have t1 : decide (f < 0) = false := decide_eq_false h1
          by_cases h2 : t > (nl : Int)
          · have t2 : decide ((nl : Int) < t) = true := decide_eq_true h2
            clear hbad h1 h2
            go_wp2_with fail
            go_meet
            case rel => exact ⟨_, _, _, rfl, rfl, Lib.hid ⟨by rw [HQ.out]; exact SegT.nil _, E7.out⟩⟩
          · have t2 : decide ((nl : Int) < t) = false := decide_eq_false h2
            have t3 : decide (t ≤ f) = true := decide_eq_true (by omega)
            clear hbad h1 h2
            go_wp2_with fail
            go_meet
            case rel => exact ⟨_, _, _, rfl, rfl, Lib.hid ⟨by rw [HQ.out]; exact SegT.nil _, E7.out⟩⟩
      · obtain ⟨p, hp⟩ : ∃ p, p = f.toNat := ⟨_, rfl⟩
        obtain ⟨q, hq⟩ : ∃ q, q = t.toNat := ⟨_, rfl⟩
        obtain rfl : f = (p : Int) := by omega
        obtain rfl : t = (q : Int) := by omega
        have hpq : p < q := by omega
        have hqn : q ≤ L.length := by have := HNL.out; omega
        have h0 : se = 0 := by rw [HSE.out, sqE, if_pos HG.out, if_neg (by rw [← HNL.out]; exact hbad)]
        have hR : sqR L (p : Int) (q : Int) = sqL L p q := by rw [sqR, ← HSE.out, h0, if_pos rfl]; simp
        have HQ := Lib.hid hR
        have t1 : decide ((p : Int) < 0) = false := decide_eq_false (by omega)
        have t2 : decide ((nl : Int) < (q : Int)) = false := decide_eq_false (by have := HNL.out; omega)
        have t3 : decide ((q : Int) ≤ (p : Int)) = false := decide_eq_false (by omega)
        have t4 : decide (nl < q) = false := decide_eq_false (by have := HNL.out; omega)
        have t5 : decide (q ≤ p) = false := decide_eq_false (by omega)
        have HESQ := Lib.hid (fun v W (h : SegT W v L) => esquash_any v L p q W h HS.out HG.out hpq hqn)
        have HAW := Lib.hid (fun W (hb : Below w7.heap.size w7 W) => HA.out W (below_later L7.out hb))
        have HKW := Lib.hid (fun W (hb : Below w7.heap.size w7 W) => K7.out.later hb)
        subst h0
        clear hp hq hbad hpq hqn hR
        go_upto_region 7 with (fail)
        have low : Below w7.heap.size w7 w7 := Below.refl _ _
        go_region_law (first
          | (go_simp; go_at_call 10; (with_reducible refine (HAW.out _ (by first | exact low | exact low.drew)).mono ?_); rintro e wS ⟨vX, rfl, oX, bS⟩; have low := (by first | exact below_later low bS | exact below_later low.drew bS : Below w7.heap.size w7 wS); have sX := oX.seg; obtain ⟨oo', cc', rfl, _, _⟩ := oX.seg.shape; have kk := HKW.out _ low; obtain ⟨e0, e1⟩ : wS.cell? ⟨w.heap.size, 0, none⟩ = some (.int .i64 (p : Int)) ∧ wS.cell? ⟨w.heap.size, 1, none⟩ = some (.int .i64 (q : Int)) := ⟨kk.cell 0, kk.cell 1⟩; have l7 := kk.lt; clear bS oX)
          | (go_simp; go_at_call 27; (with_reducible refine (HESQ.out _ _ sX).mono ?_); rintro e wT ⟨vY, rfl, oY, bT⟩; have low := (below_later low bT : Below w7.heap.size w7 wT); obtain ⟨oo2, cc2, rfl, _, _⟩ := oY.shape; clear bT))
        all_goals
          have HY := Lib.hid oY
          have HLOW := Lib.hid (below_later E7.out low)
          clear oY low
          go_wp2_with fail
          go_meet
          case rel => exact ⟨_, _, _, rfl, rfl, Lib.hid ⟨by rw [HQ.out]; exact HY.out, HLOW.out⟩⟩
  case rest =>
    obtain ⟨ow, nw, cw, rfl, rfl, HC⟩ := hcut
    have HSM := Lib.hid (esame_any _ _ (sqR L f t) (sqR L f t) wc (O6.out.seg.later HC.out.2) HC.out.1 true (decide_eq_true rfl).symm)
    have HSP := Lib.hid (fun W (hb : Below w6.heap.size w6 W) => spoil11_any w5.heap.size _ (sqR L f t) W (O6.out.later hb) (by have := E6.out.size; have := hb.size; omega))
    have E7 := Lib.hid HC.out.2
    clear HSE HC e0 e1 l6
    go_wp2_with fail
    refine HSM.out.mono ?_
    rintro e w7 ⟨rfl, b7⟩
    have E7 := Lib.hid (below_later E7.out b7)
    clear b7 HSM
    go_wp2_with fail
    refine (HSP.out _ E7.out).mono ?_
    rintro e wL ⟨rfl, b8⟩
    have FL := Lib.hid ((below_later E6.out E7.out).trans b8)
    have LL := Lib.hid (below_later L5.out FL.out)
    have SL := Lib.hid (S5.out.later FL.out)
    clear b8 HSP
    go_wp2
    go_loopw [72] (fun i wr => ∃ k : Nat, k ≤ nl ∧ i = .int .i64 (k : Int) ∧ Hid (Below wL.heap.size wL wr)) (fun i _ => nl - (intOf i).toNat)
    case atStart => exact ⟨0, Nat.zero_le _, rfl, Lib.hid (Below.refl _ _)⟩
    case round =>
      obtain ⟨k, hk, rfl, HB⟩ := hrel
      by_cases hlt : k < nl
      · have hkl : k < L.length := by have := HNL.out; omega
        by_cases hk0 : k = 0
        · subst hk0
          go_wp2
          go_roundw
          case rel => exact ⟨0 + 1, by omega, by go_num, HB⟩
          case measure => first | (simp [intOf]; done) | (simp [intOf]; omega)
        · by_cases hk6 : k = 6
          · subst hk6
            go_wp2
            go_roundw
            case rel => exact ⟨6 + 1, by omega, by go_num, HB⟩
            case measure => first | (simp [intOf]; done) | (simp [intOf]; omega)
          · have t0 : ((k : Int) == 0) = false := by simpa using hk0
            have t6 : ((k : Int) == 6) = false := by rw [beq_eq_false_iff_ne]; omega
            obtain ⟨j, hj⟩ : ∃ j, j = k - 1 := ⟨_, rfl⟩
            obtain ⟨k1, hk1⟩ : ∃ k1, k1 = k + 1 := ⟨_, rfl⟩
            have HK1 := Lib.hid hk1
            have HJK := Lib.hid (show k = j + 1 by omega)
            have hjl : j < L.length := by omega
            have iw1 : IntKind.i64.wrap ((k : Int) - 1) = (j : Int) := by rw [IntKind.wrap_i64]; omega
            have iw2 : IntKind.i64.wrap ((k : Int) + 1) = (k1 : Int) := by rw [IntKind.wrap_i64]; omega
            have jn : j < nl := by omega
            have jn' : (j : Int) < (nl : Int) := by omega
            have kn' : (k : Int) < (nl : Int) := by omega
            obtain ⟨b, g, x, he, _, lb, d0, d1, tx⟩ := (SL.out.later HB.out).at hjl
            obtain ⟨b', g', y, he1, _, _, d2, d3, ty⟩ := (SL.out.later HB.out).at hkl
            subst he
            injection he1 with he1
            injection he1 with he1 he1'
            subst he1 he1'
            have hcut : (L.drop j).take (k1 - j) = [L[j], L[k]] := by
              have h2 : k1 - j = 2 := by omega
              have hk2 : k = j + 1 := by omega
              subst hk2
              rw [h2, List.drop_eq_getElem_cons hjl, List.drop_eq_getElem_cons hkl]
              rfl
            have hst := HS.out _ (List.getElem_mem hjl)
            have hsu := HS.out _ (List.getElem_mem hkl)
            have hwt := HW.out _ (List.getElem_mem hjl)
            have hwu := HW.out _ (List.getElem_mem hkl)
            obtain ⟨tt, htt⟩ : ∃ tt, tt = L[j] := ⟨_, rfl⟩
            obtain ⟨uu, huu⟩ : ∃ uu, uu = L[k] := ⟨_, rfl⟩
            rw [← htt] at tx hst hwt hcut
            rw [← huu] at ty hsu hwu hcut
            have S2 : SmT 16 [tt, uu] := fun z hz => by
              simp at hz
              rcases hz with rfl | rfl
              · exact hst
              · exact hsu
            have W2 : Wl [tt, uu] := fun z hz => by
              simp at hz
              rcases hz with rfl | rfl
              · exact hwt
              · exact hwu
            have HS2 := Lib.hid S2
            have HTX := Lib.hid (And.intro tx ty)
            have HSZ := Lib.hid (And.intro hst hsu)
            obtain ⟨ao, an, ac, ao', an', ac'⟩ := x
            obtain ⟨bo, bn, bc, bo', bn', bc'⟩ := y
            simp only at d0 d1 d2 d3
            have HDD := Lib.hid (fun W (hb : Below wr.heap.size wr W) => (⟨(hb.cell (p := ⟨b, g + j * 2, none⟩) lb).trans d0, (hb.cell (p := ⟨b, g + j * 2 + 1, none⟩) lb).trans d1, (hb.cell (p := ⟨b, g + k * 2, none⟩) lb).trans d2, (hb.cell (p := ⟨b, g + k * 2 + 1, none⟩) lb).trans d3⟩ : W.cell? ⟨b, g + j * 2, none⟩ = some (.slice ao an ac) ∧ W.cell? ⟨b, g + j * 2 + 1, none⟩ = some (.slice ao' an' ac') ∧ W.cell? ⟨b, g + k * 2, none⟩ = some (.slice bo bn bc) ∧ W.cell? ⟨b, g + k * 2 + 1, none⟩ = some (.slice bo' bn' bc')))
            obtain ⟨ck, hck⟩ : ∃ ck, ck = ckT [tt, uu] := ⟨_, rfl⟩
            obtain ⟨J, hJ⟩ : ∃ J, J = if goodT [tt, uu] then joinT old [tt, uu] else (([], []) : Tr) := ⟨_, rfl⟩
            have HJO := Lib.hid (fun W (hb : Below wr.heap.size wr W) => join_any old ⟨ao, an, ac, ao', an', ac'⟩ ⟨bo, bn, bc, bo', bn', bc'⟩ tt uu W (HTX.out.1.later hb) (HTX.out.2.later hb) W2 (S2.mono (by decide)))
            rw [← hck, ← hJ] at HJO
            have HCK := Lib.hid hck
            have HJJ := Lib.hid hJ
            have HCUT := Lib.hid (fun W (hb : Below wr.heap.size wr W) => (by
              have := ((SL.out.later HB.out).later hb).cut (p := j) (q := k1) (g := g + j * 2) (c' := cl - j) (by omega) (by omega) (fun _ => rfl) (by omega) (by omega)
              rwa [hcut] at this : SegT W (.slice (some ⟨b, g + j * 2, none⟩) (k1 - j) (cl - j)) [tt, uu]))
            have HJD := Lib.hid (fun (hg : goodT [tt, uu]) W (h : SegT W (.slice (some ⟨b, g + j * 2, none⟩) (k1 - j) (cl - j)) [tt, uu]) => ejoined_any old _ [tt, uu] W h 16 S2 (by simp) (by decide) (fun z hz => (hg.1 z hz).2))
            have hcj : ¬ cl = j := by omega
            have z1 : (j : Int) ≤ (k1 : Int) := by omega
            have z2 : (k1 : Int) ≤ (cl : Int) := by omega
            have z3 : (j : Int) ≤ (cl : Int) := by omega
            have z4 : j ≤ k1 := by omega
            have z5 : k1 ≤ cl := by omega
            clear hj hk1 htt huu hst hsu hwt hwu S2 W2 tx ty hcut hck hJ hk0 hk6 hkl hjl
            go_upto_region 19 with (fail)
            go_cut [13, 14] from 81 to 94 (fun s13 s14 wx => ∃ p13 zo zn zc zo' zn' zc', s13 = .pointer (some ⟨p13, 0, none⟩) ∧ s14 = .int .i64 ck ∧ Hid (Blk wx p13 #[.slice zo zn zc, .slice zo' zn' zc'] 38 ∧ OwnQ 36 wr.heap.size wx ⟨zo, zn, zc, zo', zn', zc'⟩ J ∧ Below wr.heap.size wr wx))
            case first =>
              have blw : b < wr.heap.size + 1 := by omega
              go_region_law (first
                | (go_simp; go_at_call 28; (with_reducible refine (HJO.out _ (by first | with_reducible exact (Gr.drew _).below | with_reducible exact ((Gr.alloc _ _).trans (Gr.drew _)).below)).mono ?_); rintro e wS ⟨⟨zo, zn, zc, zo', zn', zc'⟩, rfl, oz, bS⟩; (first | (have kz : Blk wS wr.heap.size #[.slice none 0 0, .slice none 0 0] 38 := (by with_reducible exact Blk.nwd bS); have kf0 := kz.frozen 0; have kf1 := kz.frozen 1; have kl := kz.lt; have kc0 := kz.cell 0; have kc1 := kz.cell 1; simp only [List.getElem?_toArray, List.getElem?_cons_zero, List.getElem?_cons_succ] at kc0 kc1; have KZ := Lib.hid kz; clear kz) | skip); have BS := Lib.hid bS; have OZ := Lib.hid oz; clear bS oz))
              all_goals
                go_wp2_with fail
                go_meet
                first
                  | exact ⟨_, _, _, _, _, _, _, rfl, rfl, Lib.hid ⟨KZ.out.setT, ⟨(OZ.out.mono (B' := wr.heap.size) (by simp)).1.otherB2 KZ.out (by decide) 0 1 _ _, (OZ.out.mono (B' := wr.heap.size) (by simp)).2.otherB2 KZ.out (by decide) 0 1 _ _⟩, ((below_later ((Gr.alloc _ _).trans (Gr.drew _)).below BS.out).setCell (Nat.le_refl _) _).setCell (Nat.le_refl _) _⟩⟩
                  | exact ⟨_, _, _, _, _, _, _, rfl, rfl, Lib.hid ⟨Blk.new _ _ _, (OZ.out.later (Gr.alloc _ _).below).mono (Nat.le_refl _), below_later (below_later (Gr.drew _).below BS.out) (Gr.alloc _ _).below⟩⟩
            case rest =>
              obtain ⟨wd, hwd⟩ : ∃ wd, wd = wc := ⟨_, rfl⟩
              subst hwd
              obtain ⟨p13, zo, zn, zc, zo', zn', zc', rfl, rfl, HZ⟩ := hcut
              have g2 := Gr.alloc wd (.cells #[.slice none 0 0, .slice none 0 0] 38)
              have hlt13 := HZ.out.1.lt
              obtain ⟨W2, hW2⟩ : ∃ W2, W2 = wd.alloc (.cells #[.slice none 0 0, .slice none 0 0] 38) := ⟨_, rfl⟩
              have kx2 : Blk W2 wd.heap.size #[.slice none 0 0, .slice none 0 0] 38 := by rw [hW2]; exact Blk.new _ _ _
              rw [← hW2] at g2
              have KX := Lib.hid kx2
              have KZ := Lib.hid (HZ.out.1.later g2.below)
              have QZ := Lib.hid (HZ.out.2.1.later g2.below)
              have BZ := Lib.hid (below_later HZ.out.2.2 g2.below)
              have hne : wd.heap.size ≠ p13 := by omega
              have hwd := HZ.out.2.2.size
              go_upto_region 21 with (fail)
              rw [← hW2]
              clear hW2 HZ kx2 g2 d0 d1 d2 d3
              obtain ⟨r1, hr1⟩ : ∃ r1, r1 = decide (oneT tt) := ⟨_, rfl⟩
              obtain ⟨r2, hr2⟩ : ∃ r2, r2 = decide (oneT uu) := ⟨_, rfl⟩
              have HO1 := Lib.hid (fun W (hb : Below wr.heap.size wr W) => one_any ⟨ao, an, ac, ao', an', ac'⟩ tt W (HTX.out.1.later hb) (by have := HSZ.out.1.1; omega) r1 hr1)
              have HO2 := Lib.hid (fun W (hb : Below wr.heap.size wr W) => one_any ⟨bo, bn, bc, bo', bn', bc'⟩ uu W (HTX.out.2.later hb) (by have := HSZ.out.2.1; omega) r2 hr2)
              have HR1 := Lib.hid hr1
              have HR2 := Lib.hid hr2
              clear hr1 hr2
              obtain ⟨d0, d1, d2, d3⟩ := HDD.out W2 BZ.out
              have lb2 := Nat.lt_of_lt_of_le lb BZ.out.size
              go_wp2_with fail
              refine (HO1.out _ BZ.out).mono ?_
              rintro e w3 ⟨rfl, b3⟩
              have KX3 := Lib.hid (KX.out.later b3)
              have KZ3 := Lib.hid (KZ.out.later b3)
              have QZ3 := Lib.hid (QZ.out.later b3)
              have BZ3 := Lib.hid (below_later BZ.out b3)
              obtain ⟨d0, d1, d2, d3⟩ := HDD.out w3 BZ3.out
              have lb3 := Nat.lt_of_lt_of_le lb BZ3.out.size
              clear b3 HO1
              cases r1
              · have hng : ¬ goodT [tt, uu] := fun h => of_decide_eq_false HR1.out.symm ((goodT_two _ _).1 h).1
                have hc0 : ck = 210 := by rw [HCK.out, ckT_no hng]
                have HJ0 := Lib.hid (show J = ([], []) by rw [HJJ.out, if_neg hng])
                subst hc0
                clear hng
                go_upto_region 23 with (fail)
                have kx := KX3.out
                have kz := KZ3.out
                have qz := QZ3.out
                have bx := BZ3.out
                have qx : OwnQ 36 wr.heap.size w3 ⟨none, 0, 0, none, 0, 0⟩ J := by rw [HJ0.out]; exact ⟨OwnP.nil _ _ _, OwnP.nil _ _ _⟩
                have HSS := Lib.hid (esame_any _ _ [J] [J] ((w3.alloc (.cells #[.slice zo zn zc, .slice zo' zn' zc'] 38)).alloc (.cells #[.slice none 0 0, .slice none 0 0] 38)) (segT_one ((Blk.new _ _ _).alloc _) ((qz.tr.later (Gr.alloc _ _).below).later (Gr.alloc _ _).below)) (segT_one (Blk.new1 _ _ _ _) ((qx.tr.later (Gr.alloc _ _).below).later (Gr.alloc _ _).below)) true (decide_eq_true rfl).symm)
                have HBX := Lib.hid (below_later (below_later bx (Gr.alloc _ (.cells #[.slice zo zn zc, .slice zo' zn' zc'] 38)).below) (Gr.alloc _ (.cells #[.slice none 0 0, .slice none 0 0] 38)).below)
                have c0 := kx.cell 0
                have c1 := kx.cell 1
                have c2 := kz.cell 0
                have c3 := kz.cell 1
                have lx := kx.lt
                have lz := kz.lt
                simp only [List.getElem?_toArray, List.getElem?_cons_zero, List.getElem?_cons_succ] at c0 c1 c2 c3
                clear kx qx kz qz bx
                go_wp2_with fail
                refine HSS.out.mono ?_
                rintro e w9 ⟨rfl, b9⟩
                have HB9 := Lib.hid (below_later HB.out (below_later HBX.out b9))
                clear b9 HSS
                go_wp2
                go_roundw
                case rel => exact ⟨k1, by have := HK1.out; omega, by go_num, HB9⟩
                case measure => have := HK1.out; simp [intOf]; omega
              · go_wp2_with fail
                refine (HO2.out _ BZ3.out).mono ?_
                rintro e w4 ⟨rfl, b4⟩
                have KX4 := Lib.hid (KX3.out.later b4)
                have KZ4 := Lib.hid (KZ3.out.later b4)
                have QZ4 := Lib.hid (QZ3.out.later b4)
                have BZ4 := Lib.hid (below_later BZ3.out b4)
                clear b4 HO2
                cases r2
                · have hng : ¬ goodT [tt, uu] := fun h => of_decide_eq_false HR2.out.symm ((goodT_two _ _).1 h).2
                  have hc0 : ck = 210 := by rw [HCK.out, ckT_no hng]
                  have HJ0 := Lib.hid (show J = ([], []) by rw [HJJ.out, if_neg hng])
                  subst hc0
                  clear hng
                  go_upto_region 23 with (fail)
                  have kx := KX4.out
                  have kz := KZ4.out
                  have qz := QZ4.out
                  have bx := BZ4.out
                  have qx : OwnQ 36 wr.heap.size w4 ⟨none, 0, 0, none, 0, 0⟩ J := by rw [HJ0.out]; exact ⟨OwnP.nil _ _ _, OwnP.nil _ _ _⟩
                  have HSS := Lib.hid (esame_any _ _ [J] [J] ((w4.alloc (.cells #[.slice zo zn zc, .slice zo' zn' zc'] 38)).alloc (.cells #[.slice none 0 0, .slice none 0 0] 38)) (segT_one ((Blk.new _ _ _).alloc _) ((qz.tr.later (Gr.alloc _ _).below).later (Gr.alloc _ _).below)) (segT_one (Blk.new1 _ _ _ _) ((qx.tr.later (Gr.alloc _ _).below).later (Gr.alloc _ _).below)) true (decide_eq_true rfl).symm)
                  have HBX := Lib.hid (below_later (below_later bx (Gr.alloc _ (.cells #[.slice zo zn zc, .slice zo' zn' zc'] 38)).below) (Gr.alloc _ (.cells #[.slice none 0 0, .slice none 0 0] 38)).below)
                  have c0 := kx.cell 0
                  have c1 := kx.cell 1
                  have c2 := kz.cell 0
                  have c3 := kz.cell 1
                  have lx := kx.lt
                  have lz := kz.lt
                  simp only [List.getElem?_toArray, List.getElem?_cons_zero, List.getElem?_cons_succ] at c0 c1 c2 c3
                  clear kx qx kz qz bx
                  go_wp2_with fail
                  refine HSS.out.mono ?_
                  rintro e w9 ⟨rfl, b9⟩
                  have HB9 := Lib.hid (below_later HB.out (below_later HBX.out b9))
                  clear b9 HSS
                  go_wp2
                  go_roundw
                  case rel => exact ⟨k1, by have := HK1.out; omega, by go_num, HB9⟩
                  case measure => have := HK1.out; simp [intOf]; omega
                · have hgo : goodT [tt, uu] := (goodT_two _ _).2 ⟨of_decide_eq_true HR1.out.symm, of_decide_eq_true HR2.out.symm⟩
                  have hc0 : ck = 0 := by rw [HCK.out, ckT_yes hgo]
                  have HJ0 := Lib.hid (show J = joinT old [tt, uu] by rw [HJJ.out, if_pos hgo])
                  have HGO := Lib.hid hgo
                  subst hc0
                  clear hgo
                  go_wp2_with fail
                  refine (HJD.out HGO.out _ (HCUT.out _ BZ4.out)).mono ?_
                  rintro e w5 ⟨⟨xo, xn, xc, xo', xn', xc'⟩, rfl, q5, b5⟩
                  have kx5 := KX4.out.later b5
                  have KX5 := Lib.hid kx5
                  have KZ5 := Lib.hid (KZ4.out.later b5)
                  have QZ5 := Lib.hid (QZ4.out.later b5)
                  have BZ5 := Lib.hid (below_later BZ4.out b5)
                  have QX5 := Lib.hid (q5.mono (B' := wr.heap.size) BZ4.out.size)
                  have c0 := kx5.cell 0
                  have c1 := kx5.cell 1
                  have f0 := kx5.frozen 0
                  have f1 := kx5.frozen 1
                  have lx := kx5.lt
                  simp only [List.getElem?_toArray, List.getElem?_cons_zero, List.getElem?_cons_succ] at c0 c1
                  clear kx5 q5 b5
                  obtain ⟨w6, hw6⟩ : ∃ w6, w6 = (w5.setCell ⟨wd.heap.size, 0, none⟩ (.slice xo xn xc)).setCell ⟨wd.heap.size, 1, none⟩ (.slice xo' xn' xc') := ⟨_, rfl⟩
                  have kx : Blk w6 wd.heap.size #[.slice xo xn xc, .slice xo' xn' xc'] 38 := by rw [hw6]; exact KX5.out.setT
                  have qx : OwnQ 36 wr.heap.size w6 ⟨xo, xn, xc, xo', xn', xc'⟩ J := by rw [hw6, HJ0.out]; exact ⟨QX5.out.1.otherB2 KX5.out (by decide) 0 1 _ _, QX5.out.2.otherB2 KX5.out (by decide) 0 1 _ _⟩
                  have kz : Blk w6 p13 #[.slice zo zn zc, .slice zo' zn' zc'] 38 := by rw [hw6]; exact (KZ5.out.other (fun e => hne e.symm) _).other (fun e => hne e.symm) _
                  have qz : OwnQ 36 wr.heap.size w6 ⟨zo, zn, zc, zo', zn', zc'⟩ J := by rw [hw6]; exact ⟨QZ5.out.1.otherB2 KX5.out (by decide) 0 1 _ _, QZ5.out.2.otherB2 KX5.out (by decide) 0 1 _ _⟩
                  have bx : Below wr.heap.size wr w6 := by rw [hw6]; exact (BZ5.out.setCell hwd _).setCell hwd _
                  go_upto_region 23 with (fail)
                  rw [← hw6]
                  clear hw6 c0 c1 f0 f1 lx
                  have HSS := Lib.hid (esame_any _ _ [J] [J] ((w6.alloc (.cells #[.slice zo zn zc, .slice zo' zn' zc'] 38)).alloc (.cells #[.slice xo xn xc, .slice xo' xn' xc'] 38)) (segT_one ((Blk.new _ _ _).alloc _) ((qz.tr.later (Gr.alloc _ _).below).later (Gr.alloc _ _).below)) (segT_one (Blk.new1 _ _ _ _) ((qx.tr.later (Gr.alloc _ _).below).later (Gr.alloc _ _).below)) true (decide_eq_true rfl).symm)
                  have HBX := Lib.hid (below_later (below_later bx (Gr.alloc _ (.cells #[.slice zo zn zc, .slice zo' zn' zc'] 38)).below) (Gr.alloc _ (.cells #[.slice xo xn xc, .slice xo' xn' xc'] 38)).below)
                  have c0 := kx.cell 0
                  have c1 := kx.cell 1
                  have c2 := kz.cell 0
                  have c3 := kz.cell 1
                  have lx := kx.lt
                  have lz := kz.lt
                  simp only [List.getElem?_toArray, List.getElem?_cons_zero, List.getElem?_cons_succ] at c0 c1 c2 c3
                  clear kx qx kz qz bx
                  go_wp2_with fail
                  refine HSS.out.mono ?_
                  rintro e w9 ⟨rfl, b9⟩
                  have HB9 := Lib.hid (below_later HB.out (below_later HBX.out b9))
                  clear b9 HSS
                  go_wp2
                  go_roundw
                  case rel => exact ⟨k1, by have := HK1.out; omega, by go_num, HB9⟩
                  case measure => have := HK1.out; simp [intOf]; omega
      · have F8 := Lib.hid (below_later FL.out HB.out)
        have L8 := Lib.hid (below_later LL.out HB.out)
        go_wp2_with fail
        refine (HA.out _ L8.out).mono ?_
        rintro e w14 ⟨v14, rfl, o14, b14⟩
        have F14 := Lib.hid (below_later F8.out b14)
        have HFI := Lib.hid (esame_any _ _ L L w14 (S5.out.later F14.out) o14.seg true (decide_eq_true rfl).symm)
        obtain ⟨o15, c15, rfl, _, _⟩ := o14.seg.shape
        clear o14 b14
        go_wp2_with fail
        refine HFI.out.mono ?_
        rintro e w15 ⟨rfl, b15⟩
        have L15 := Lib.hid (below_later L5.out (below_later F14.out b15))
        clear b15 HFI
        go_wp2
        go_ret
        exact ⟨rfl, L15.out⟩
end Go.Proofs.Ytcapmhmlipmciaa

