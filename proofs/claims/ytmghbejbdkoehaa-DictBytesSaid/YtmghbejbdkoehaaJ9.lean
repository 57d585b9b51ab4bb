/- A text laid into the slots; wider. -/
import Derived.Test.YtmghbejbdkoehaaJ8
import Derived.Deep.RegionLaw
namespace Go.Proofs.Kit
open Go.RowKit
section
variable {tt ts ti : TypeId} {w0 W W' : World} {b : Nat} {vT vS : Value} {lT lS : List Value}
theorem NewT.gr (h : NewT tt ts ti w0 b vT vS lT lS W) (g : Gr W W') : NewT tt ts ti w0 b vT vS lT lS W' := ⟨h.kb.gr g, h.oT.gr g, h.oS.gr g, below_gr h.low g h.low.size, h.ge⟩
theorem NewT.drew (h : NewT tt ts ti w0 b vT vS lT lS W) : NewT tt ts ti w0 b vT vS lT lS W.drew := h.gr (Gr.drew _)
theorem NewT.cells (h : NewT tt ts ti w0 b vT vS lT lS W) : W.cell? ⟨b, 0, none⟩ = some vT ∧ W.cell? ⟨b, 1, none⟩ = some vS ∧ W.frozen? ⟨b, 0, none⟩ = false ∧ W.frozen? ⟨b, 1, none⟩ = false ∧ b < W.heap.size := ⟨h.kb.cell 0, h.kb.cell 1, h.kb.frozen 0, h.kb.frozen 1, h.kb.lt⟩
theorem Ow.at {α : Type} {e : α → Value} {t : TypeId} {B n c i : Nat} {o : Option Addr} {l : List α} (h : Ow t B W (.slice o n c) (l.map e)) (hi : i < l.length) : ∃ g, o = some ⟨g, 0, none⟩ ∧ n = l.length ∧ g < W.heap.size ∧ W.cell? ⟨g, i, none⟩ = some (e l[i]) := by
  obtain ⟨g, cap, e1, _, _, _, h6, h7, _, _⟩ := h.set (i := i) (by simpa using hi) (.int .i64 0)
  injection e1 with e1 e2 _
  exact ⟨g, e1, by simpa using e2, h6, by rwa [List.getElem_map] at h7⟩
/-- A number is laid into a slot. -/
theorem NewT.store {S : List Int} {o : Option Addr} {m c p : Nat} (h : NewT tt ts ti w0 b vT (.slice o m c) lT (S.map (.int .i64)) W) (hp : p < S.length) (h1 : ti ≠ tt) (h2 : ti ≠ ts) :
    ∃ g, o = some ⟨g, 0, none⟩ ∧ m = S.length ∧ m ≤ c ∧ c ≤ 9223372036854775807 ∧ w0.heap.size ≤ g ∧ g < W.heap.size ∧ W.cell? ⟨g, p, none⟩ = some (.int .i64 S[p]) ∧ W.frozen? ⟨g, p, none⟩ = false ∧
      ∀ y : Int, NewT tt ts ti w0 b vT (.slice o m c) lT ((S.set p y).map (.int .i64)) (W.setCell ⟨g, p, none⟩ (.int .i64 y)) := by
  obtain ⟨g, cap, e, h3, h4, h5, h6, h7, h8, _⟩ := h.oS.set (i := p) (by simpa using hp) (.int .i64 0)
  rw [List.length_map] at e h3
  injection e with e1 e2 e3
  subst e1 e2 e3
  rw [List.getElem_map] at h7
  refine ⟨g, rfl, rfl, h3, h4, h5, h6, h7, h8, fun y => ?_⟩
  obtain ⟨g', cap', e', _, _, _, _, _, _, h9⟩ := h.oS.set (i := p) (by simpa using hp) (.int .i64 y)
  injection e' with e1 _ _
  injection e1 with e1
  injection e1 with e1 _ _
  subst e1
  have hne := h.oS.ne_blk h.kb h1
  refine ⟨h.kb.other (by rintro rfl; exact hne rfl) _, h.oT.same fun g' hg' => Below.heap_setCell _ _ _ _ (by rintro rfl; exact h.oS.ne_ow h.oT h2 _ rfl hg'), by rw [List.map_set]; exact h9, h.low.setCell h5 _, h.ge⟩
end
end Go.Proofs.Kit
namespace Go.Proofs.Ytmghbejbdkoehaa
open Go.RowKit Go.Proofs.Kit Go.Shelf
abbrev NT (w0 : World) (b : Nat) (vT vS : Value) (T : List ByteArray) (S : List Int) (W : World) : Prop := NewT 25 9 3 w0 b vT vS (T.map Value.string) (S.map (Value.int .i64)) W

set_option maxRecDepth 100000 in
set_option maxHeartbeats 2000000 in
theorem lay_any (w0 : World) (b : Nat) (vT vS : Value) (T : List ByteArray) (S : List Int) (n : Nat) (s : ByteArray) (hs : s.size ≤ 9223372036854775807) (w : World) (hN : NT w0 b vT vS T S w) (hm : S.length ≤ 1000000000) (hTl : T.length ≤ 1000000000)
    (hn : n ≤ 1000000000) (hx : ∀ x ∈ S, 0 ≤ x ∧ x ≤ (T.length : Int)) (p : Nat) (hp : seatO hsh T S s = some p) :
    Calls Try.prog 96 #[.int .i64 (n : Int), .string s, .pointer (some ⟨b, 0, none⟩)] w fun e w' => (∃ v, e = .returned v) ∧ NT w0 b vT vS T (S.set p ((n : Int) + 1)) w' := by
  have HN := Lib.hid hN
  have HX := Lib.hid hx
  have HP := Lib.hid hp
  obtain ⟨oT, cT, rfl⟩ := hN.oT.shape
  obtain ⟨oS, cS, rfl⟩ := hN.oS.shape
  have hpl := seatO_lt hp
  obtain ⟨c0, c1, -, -, -⟩ := hN.cells
  have hz : S.length = (S.map (Value.int .i64)).length := by simp
  have hz' : T.length = (T.map Value.string).length := by simp
  rw [← hz] at c1 ⊢
  rw [← hz'] at c0 ⊢
  rw [← hz, ← hz'] at HN
  obtain ⟨m, hm'⟩ : ∃ m, m = S.length := ⟨_, rfl⟩
  obtain ⟨q, hq'⟩ : ∃ q, q = T.length := ⟨_, rfl⟩
  rw [← hm'] at c1 hm hpl HN ⊢
  rw [← hq'] at c0 hTl HN ⊢
  have HM := Lib.hid hm'
  have HQ := Lib.hid hq'
  have q1 : (p : Int) < (m : Int) := by omega
  clear hN hx hp hm' hq' hz hz'
  go_enter Try.func96, Try.ntmps96
  go_region_law ((go_simp; go_at_call 79; with_reducible refine (seat_any _ _ T S s hs _ (by first | exact HN.out.oT.sl | exact HN.out.drew.oT.sl) (by first | exact HN.out.oS.sl | exact HN.out.drew.oS.sl) (by have := HM.out; omega) (by have := HQ.out; omega) HX.out p HP.out).mono ?_; rintro e w' ⟨rfl, g⟩; have hN' := HN.out.drew.gr g; obtain ⟨g', rfl, -, h3, h4, h5, h6, h7, h8, h9⟩ := hN'.store (p := p) (by have := HM.out; omega) (by decide) (by decide); have H9 := Lib.hid (h9 ((n : Int) + 1)); obtain ⟨c0, c1, -, -, -⟩ := hN'.cells; clear h9 hN'))
  all_goals
    rw [show IntKind.i64.wrap ((n : Int) + 1) = (n : Int) + 1 by rw [IntKind.wrap_i64]; omega]
    go_end0
    exact ⟨⟨_, rfl⟩, H9.out⟩

set_option maxRecDepth 100000 in
set_option maxHeartbeats 4000000 in
theorem wider_any (vT vS : Value) (T : List ByteArray) (S : List Int) (w : World) (hT : Sl w vT (T.map Value.string)) (hS : Sl w vS (S.map (Value.int .i64))) (hm : S.length ≤ 100000000) (hTl : T.length ≤ 100000000) (hsz : ∀ s ∈ T, s.size ≤ 9223372036854775807)
    (hnd : T.Nodup) (hlt : T.length < 2 * S.length) :
    Calls Try.prog 88 #[.agg #[vT, vS]] w fun en w' => ∃ vT' vS' S', en = .returned (.agg #[vT', vS']) ∧ Ow 9 w.heap.size w' vT' (T.map Value.string) ∧ Ow 3 w.heap.size w' vS' (S'.map (Value.int .i64)) ∧ S'.length = 2 * S.length ∧ Part hsh T S' T.length ∧ Below w.heap.size w w' := by
  have hmf : ∀ (fn : Fn) (first cap : Array Value) (w : World), (Instr.makeFunc fn first cap).run Try.prog w = .ok (.func fn first cap) w := fun _ _ _ _ => rfl
  have HT := Lib.hid hT
  have HND := Lib.hid hnd
  have HZ := Lib.hid hsz
  obtain ⟨oT, cT, rfl, _, _, _⟩ := hT.mshape
  obtain ⟨oS, cS, rfl, _, _, _⟩ := hS.mshape
  obtain ⟨m, hm'⟩ : ∃ m, m = S.length := ⟨_, rfl⟩
  obtain ⟨q, hq'⟩ : ∃ q, q = T.length := ⟨_, rfl⟩
  rw [← hm'] at hm hlt ⊢
  rw [← hq'] at hTl HT hlt ⊢
  have HQ := Lib.hid hq'
  clear hT hS hm' hq' hnd hsz
  have mk1 := mkS q (by omega)
  have mk2 := mkI (2 * m) (by omega)
  have r1 : (2 : Int) * (m : Int) = ((2 * m : Nat) : Int) := by omega
  have mk2' : ∀ W : World, (Instr.makeSlice 23 (.int .i64 (2 * (m : Int))) (.int .i64 (2 * (m : Int)))).run Try.prog W = .ok (.slice (some ⟨W.heap.size, 0, none⟩) (2 * m) (2 * m)) (W.alloc (.cells (List.replicate (2 * m) (Value.int .i64 0)).toArray 3)) := by rw [r1]; exact mk2
  clear mk2 r1
  go_enter Try.func88, Try.ntmps88
  go_wp2
  obtain ⟨W2, hW2⟩ : ∃ W2, W2 = (w.alloc (.cells #[.slice oT q cT, .slice oS m cS] 25)).alloc (.cells #[.slice none 0 0, .slice none 0 0] 25) := ⟨_, rfl⟩
  have g2 : Gr w W2 := by rw [hW2]; exact (Gr.alloc _ _).trans (Gr.alloc _ _)
  have k1 : Blk W2 w.heap.size #[.slice oT q cT, .slice oS m cS] 25 := by rw [hW2]; exact (Blk.new _ _ _).alloc _
  have k2 : Blk W2 (w.heap.size + 1) #[.slice none 0 0, .slice none 0 0] 25 := by rw [hW2]; have := Blk.new (w.alloc (.cells #[.slice oT q cT, .slice oS m cS] 25)) #[.slice none 0 0, .slice none 0 0] 25; simpa using this
  rw [← hW2]
  clear hW2
  obtain ⟨c0, c1, l1⟩ : W2.cell? ⟨w.heap.size, 0, none⟩ = some (.slice oT q cT) ∧ W2.cell? ⟨w.heap.size, 1, none⟩ = some (.slice oS m cS) ∧ w.heap.size < W2.heap.size := ⟨k1.cell 0, k1.cell 1, k1.lt⟩
  have hTq : q ≤ 1000000000 := by omega
  have hm2 : 2 * m ≤ 1000000000 := by omega
  go_cut [3] from 7 to 16 (fun s3 wc => ∃ b vT' vS', s3 = .pointer (some ⟨b, 0, none⟩) ∧ NewT 25 9 3 W2 b vT' vS' (List.replicate q (.string ⟨#[]⟩)) (List.replicate (2 * m) (.int .i64 0)) wc)
  case first =>
    go_region
    all_goals
      go_wp2_with fail
      go_meet
      first | exact ⟨_, _, _, rfl, newT_TSR _ _ _ _ hTq hm2 _ _⟩ | exact ⟨_, _, _, rfl, newT_TRS _ _ _ _ hTq hm2 _ _⟩ | exact ⟨_, _, _, rfl, newT_STR _ _ _ _ hTq hm2 _ _⟩ | exact ⟨_, _, _, rfl, newT_SRT _ _ _ _ hTq hm2 _ _⟩ | exact ⟨_, _, _, rfl, newT_RTS _ _ _ _ hTq hm2 _ _⟩ | exact ⟨_, _, _, rfl, newT_RST _ _ _ _ hTq hm2 _ _⟩
  case rest =>
    obtain ⟨b, vT', vS', rfl, hN⟩ := hcut
    obtain ⟨oT', cT', rfl⟩ := hN.oT.shape
    obtain ⟨oS', cS', rfl⟩ := hN.oS.shape
    rw [List.length_replicate, List.length_replicate] at hN
    have HN := Lib.hid hN
    have hb2 : w.heap.size ≤ W2.heap.size := g2.below.size
    obtain ⟨c0, c1⟩ : wc.cell? ⟨w.heap.size, 0, none⟩ = some (.slice oT q cT) ∧ wc.cell? ⟨w.heap.size, 1, none⟩ = some (.slice oS m cS) := ⟨(k1.later hN.low).cell 0, (k1.later hN.low).cell 1⟩
    obtain ⟨d0, d1⟩ : wc.cell? ⟨b, 0, none⟩ = some (.slice oT' q cT') ∧ wc.cell? ⟨b, 1, none⟩ = some (.slice oS' (2 * m) cS') := ⟨hN.kb.cell 0, hN.kb.cell 1⟩
    have HT1 := Lib.hid ((HT.out.gr g2).later hN.low)
    have HO := Lib.hid hN.oT
    have K2 := Lib.hid k2
    clear hN mk1 mk2' k1 k2
    go_wp2_with (with_reducible refine wpList_copy_sl rfl _ _ 22 22 rfl 9 Try.underlying22 sizeS W2.heap.size _ _ HO.out rfl _ _ HT1.out rfl ?ca ?cb ?_)
    case ca => rw [List.length_replicate, List.length_map, HQ.out]
    case cb => intro y hy; obtain ⟨s, _, rfl⟩ := List.mem_map.1 hy; rfl
    rw [← HQ.out]
    intro w3 hO3 hG3
    have N3 := HN.out.grownT hO3 hG3 (by decide) (by decide)
    rw [show List.replicate (2 * m) (Value.int .i64 0) = (List.replicate (2 * m) (0 : Int)).map (Value.int .i64) by simp] at N3
    have HN3 := Lib.hid (show NT W2 b (.slice oT' q cT') (.slice oS' (2 * m) cS') T (List.replicate (2 * m) (0 : Int)) w3 from N3)
    obtain ⟨d0, d1⟩ : w3.cell? ⟨b, 0, none⟩ = some (.slice oT' q cT') ∧ w3.cell? ⟨b, 1, none⟩ = some (.slice oS' (2 * m) cS') := ⟨N3.kb.cell 0, N3.kb.cell 1⟩
    clear N3 hO3 hG3
    have hp0 : Part hsh T (List.replicate (2 * m) (0 : Int)) 0 := Part.none hsh T (fun x hx => (List.mem_replicate.1 hx).2)
    have HP0 := Lib.hid hp0
    clear hp0
    go_wp2
    clear c0 c1 d0 d1
    go_loopw [5, 6, 26] (fun _ _ i wr => ∃ (k : Nat) (Sk : List Int), k ≤ q ∧ i = .int .i64 (k : Int) ∧ Hid (Sk.length = 2 * m) ∧ Hid (Part hsh T Sk k) ∧ Hid (NT W2 b (.slice oT' q cT') (.slice oS' (2 * m) cS') T Sk wr)) (fun _ _ i _ => q - (intOf i).toNat)
    case atStart => exact ⟨0, _, Nat.zero_le _, rfl, Lib.hid (by simp), HP0, HN3⟩
    case round =>
      clear HP0 HN3
      obtain ⟨k, Sk, hk, rfl, hl, hP, hNk⟩ := hrel
      by_cases hkq : k < q
      · have hkT : k < T.length := by have := HQ.out; omega
        obtain ⟨p, hp⟩ := seatO_some (hs := hsh) (T := T) (s := T[k]) (hP.out.free (by have := hl.out; omega))
        have hPn := hP.out.add hkT (seat_new hP.out (fun j hj e => by have := (List.getElem_inj HND.out).1 e; omega) hp)
        have hcall := fun W (h : NT W2 b (.slice oT' q cT') (.slice oS' (2 * m) cS') T Sk W) => lay_any W2 b _ _ T Sk k T[k] (HZ.out _ (List.getElem_mem hkT)) W h (by have := hl.out; omega) (by have := HQ.out; omega) (by omega) (fun x hx => by have := hP.out.num x hx; omega) p hp
        obtain ⟨g, rfl, -, hg, hcT⟩ := hNk.out.oT.at hkT
        obtain ⟨s, hs⟩ : ∃ s, s = T[k] := ⟨_, rfl⟩
        rw [← hs] at hcT hcall
        have HC := Lib.hid hcall
        have HPN := Lib.hid hPn
        clear hcall hPn hp hs
        go_wp2_with (go_at_call 96; refine (HC.out _ hNk.out).mono ?_; rintro e w' ⟨⟨v, rfl⟩, hN'⟩)
        go_roundw
        case rel => exact ⟨k + 1, _, by omega, by go_num, Lib.hid (by rw [List.length_set]; exact hl.out), HPN, Lib.hid hN'⟩
        case measure => simp [intOf]; omega
      · obtain rfl : k = q := by omega
        obtain ⟨d0, d1⟩ : wr.cell? ⟨b, 0, none⟩ = some (.slice oT' k cT') ∧ wr.cell? ⟨b, 1, none⟩ = some (.slice oS' (2 * m) cS') := ⟨hNk.out.kb.cell 0, hNk.out.kb.cell 1⟩
        have kR0 := K2.out.later hNk.out.low
        obtain ⟨e0, e1⟩ : wr.cell? ⟨w.heap.size + 1, 0, none⟩ = some (.slice none 0 0) ∧ wr.cell? ⟨w.heap.size + 1, 1, none⟩ = some (.slice none 0 0) := ⟨kR0.cell 0, kR0.cell 1⟩
        obtain ⟨f0, f1, l2⟩ : wr.frozen? ⟨w.heap.size + 1, 0, none⟩ = false ∧ wr.frozen? ⟨w.heap.size + 1, 1, none⟩ = false ∧ w.heap.size + 1 < wr.heap.size := ⟨kR0.frozen 0, kR0.frozen 1, kR0.lt⟩
        clear kR0
        go_wp2
        have kR := ((K2.out.later hNk.out.low).set 0 (.slice oT' k cT')).set 1 (.slice oS' (2 * m) cS')
        simp only [List.setIfInBounds_toArray, List.set_cons_zero, List.set_cons_succ] at kR
        have hb1 := K2.out.lt
        have C0 := kR.cell 0
        have C1 := kR.cell 1
        simp only [List.getElem?_toArray, List.getElem?_cons_zero, List.getElem?_cons_succ] at C0 C1
        refine bodyPost_ret (v := .agg #[.slice oT' k cT', .slice oS' (2 * m) cS']) (by simp [results, Try.results88, go_sem, C0, C1]) rfl ⟨_, _, Sk, rfl, ?_, ?_, hl.out, hP.out, ?_⟩
        · exact ((hNk.out.oT.low_set (by simpa using hb1) _).low_set (by simpa using hb1) _).mono hb2
        · exact ((hNk.out.oS.low_set (by simpa using hb1) _).low_set (by simpa using hb1) _).mono hb2
        · exact ((g2.below.trans (hNk.out.low.mono hb2)).setCell (by simp) _).setCell (by simp) _
end Go.Proofs.Ytmghbejbdkoehaa

