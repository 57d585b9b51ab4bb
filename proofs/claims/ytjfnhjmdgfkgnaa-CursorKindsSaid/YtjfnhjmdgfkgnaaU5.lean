/- trie.mayBe. -/
import Derived.Test.YtjfnhjmdgfkgnaaU4
import Derived.Test.YtjfnhjmdgfkgnaaRngG
namespace Go.Proofs.Kit
open Go.RowKit
/-- What holds between two rounds of mayBe's loop. -/
structure MInv (tT tb : TypeId) (w : World) (bx : Nat) (vb vl : Value) (W : World) : Prop where
  f1 : Blk W (w.heap.size + 1) #[.bool false] tb
  x1 : Blk W bx #[vb, vl] tT
  low : Below w.heap.size w W
theorem MInv.later {tT tb : TypeId} {w W W' : World} {bx : Nat} {vb vl : Value} (h : MInv tT tb w bx vb vl W) (hb : Below W.heap.size W W') : MInv tT tb w bx vb vl W' := ⟨h.f1.later hb, h.x1.later hb, below_later h.low hb⟩
theorem MInv.aside {tT tb : TypeId} {w W W' : World} {bx D : Nat} {vb vl : Value} (h : MInv tT tb w bx vb vl W) (ha : Kit.Aside D W W') (hD : w.heap.size ≤ D) : MInv tT tb w bx vb vl W' := ⟨ha.blk h.f1, ha.blk h.x1, ha.below h.low hD (Nat.le_refl _)⟩
theorem MInv.kt {tT tb : TypeId} {w W : World} {bx : Nat} {vb vl : Value} (h : MInv tT tb w bx vb vl W) {bs : List Br} {lv : List Int} (hb : SegR w vb bs) (hl : Seg .u64 w vl lv) : KT tT bx vb vl bs lv W := ⟨h.x1, hb.later h.low, hl.later h.low⟩
end Go.Proofs.Kit
namespace Go.Proofs.Ytjfnhjmdgfkgnaa
open Go.RowKit Go.Proofs.Kit Go.Shelf
attribute [local go_sem] Oper.semAt_some
set_option maxRecDepth 100000 in
theorem branches_any (vb vl : Value) (w : World) :
    Calls Try.prog 86 #[.agg #[vb, vl]] w fun e w' => e = .returned (.func (.func 120) #[] #[.pointer (some ⟨w.heap.size, 0, none⟩)]) ∧ w' = w.alloc (.cells #[vb, vl] 25) := by
  have hmf : ∀ (fn : Fn) (first cap : Array Value) (w : World), (Instr.makeFunc fn first cap).run Try.prog w = .ok (.func fn first cap) w := fun _ _ _ _ => rfl
  go_enter Try.func86, Try.ntmps86
  go_wp2
  go_ret
  exact ⟨rfl, rfl⟩
set_option maxRecDepth 100000 in
set_option maxHeartbeats 2000000 in
theorem mayBe_no (vb vl : Value) (bs : List Br) (lv : List Int) (w : World) (hb : SegR w vb bs) (hl : Seg .u64 w vl lv) (hlv : lv.length ≤ 1048576) (hbs : bs.length ≤ 1000000000) (hno : ¬ Chd lv.length bs) :
    Calls Try.prog 56 #[.agg #[vb, vl]] w fun e w' => e = .returned (.bool false) ∧ Below w.heap.size w w' := by
  obtain ⟨ob, cb, rfl, qb, qb', _⟩ := hb.shape
  obtain ⟨ol, cl, rfl, ql, ql', _⟩ := hl.shape
  obtain ⟨m, hm⟩ : ∃ m, m = bs.length := ⟨_, rfl⟩
  obtain ⟨q, hq⟩ : ∃ q, q = lv.length := ⟨_, rfl⟩
  have HC := Lib.hid (fun (W : World) (h : SegR W (.slice ob m cb) bs) => chained_any (.slice ob m cb) (.slice ol q cl) bs q ol cl W h rfl hbs)
  rw [← hm] at qb hbs hb ⊢
  rw [← hq] at ql hlv hl hno ⊢
  rw [decide_eq_false hno] at HC
  have HB := Lib.hid hb
  have g0 : decide ((1048576 : Int) < (q : Int)) = false := by simp; omega
  clear hm hq hb hl hno
  go_enter Try.func56, Try.ntmps56
  go_wp2_with fail
  refine (HC.out _ ((HB.out.alloc _).alloc _)).mono ?_
  rintro e w1 ⟨rfl, g1⟩
  have F1 : Hid (Blk w1 (w.heap.size + 1) #[.bool false] 4) := Lib.hid (by have := (Blk.new (w.alloc (.cells #[.slice ob m cb, .slice ol q cl] 25)) #[.bool false] 4).later g1.below; simpa using this)
  have G1 := ((Gr.alloc w _).trans (Gr.alloc _ _)).trans g1
  clear g1
  have c3 := F1.out.cell 0
  have z3 := F1.out.frozen 0
  have l1 := F1.out.lt
  have r3 := (F1.out.set 0 (.bool false)).cell 0
  simp at r3
  simp only [List.getElem?_toArray, List.getElem?_cons_zero] at c3
  go_wp2_with fail
  refine bodyPost_ret (v := .bool false) (by simp [results, Try.results56, go_sem, r3]) rfl ⟨rfl, (G1.below).setCell (by simp) _⟩
set_option maxRecDepth 100000 in
set_option maxHeartbeats 4000000 in
theorem mayBe_yes (vb vl : Value) (bs : List Br) (lv : List Int) (w : World) (hb : SegR w vb bs) (hl : Seg .u64 w vl lv) (hlv : lv.length ≤ 1048576) (hbs : bs.length ≤ 1000000000) (hcd : Chd lv.length bs) :
    CallsIn Fence.wide 6 Try.prog 56 #[.agg #[vb, vl]] w fun e w' => e = .returned (.bool (decide (ok7 bs lv))) ∧ Below w.heap.size w w' := by
  obtain ⟨ob, cb, rfl, qb, qb', _⟩ := hb.shape
  obtain ⟨ol, cl, rfl, ql, ql', _⟩ := hl.shape
  obtain ⟨m, hm⟩ : ∃ m, m = bs.length := ⟨_, rfl⟩
  obtain ⟨q, hq⟩ : ∃ q, q = lv.length := ⟨_, rfl⟩
  obtain ⟨R, hR⟩ : ∃ R, R = decide (ok7 bs lv) := ⟨_, rfl⟩
  have HC := Lib.hid (fun (W : World) (h : SegR W (.slice ob m cb) bs) => chained_any (.slice ob m cb) (.slice ol q cl) bs q ol cl W h rfl hbs)
  rw [← hR]
  rw [← hm] at qb hbs hb ⊢
  rw [← hq] at ql hlv hl hcd ⊢
  rw [decide_eq_true hcd] at HC
  have HB := Lib.hid hb
  have HL := Lib.hid hl
  have HM := Lib.hid hm
  have HQ := Lib.hid hq
  have HR := Lib.hid hR
  have HCD := Lib.hid hcd
  have g0 : decide ((1048576 : Int) < (q : Int)) = false := by simp; omega
  clear hm hq hb hl hR hcd
  refine callsIn_of_wp_marks Try.func56 rfl trivial ?_ rfl
  simp only [Try.ntmps56, List.size_toArray, List.length_cons, List.length_nil, Nat.reduceAdd, Nat.reduceSub, Array.replicate_succ, Array.replicate_zero, List.push_toArray, List.append_toArray, List.nil_append, List.cons_append]
  gi_wp2_with fail
  obtain ⟨W0, hW0⟩ : ∃ W0, W0 = (w.alloc (.cells #[.slice ob m cb, .slice ol q cl] 25)).alloc (.cells #[.bool false] 4) := ⟨_, rfl⟩
  have G0 : Gr w W0 := by rw [hW0]; exact (Gr.alloc _ _).trans (Gr.alloc _ _)
  have f0 : Blk W0 w.heap.size #[.slice ob m cb, .slice ol q cl] 25 := by rw [hW0]; exact (Blk.new _ _ _).alloc _
  have f1 : Blk W0 (w.heap.size + 1) #[.bool false] 4 := by rw [hW0]; have := Blk.new (w.alloc (.cells #[.slice ob m cb, .slice ol q cl] 25)) #[.bool false] 4; simpa using this
  rw [← hW0]
  clear hW0
  have HCL := Lib.hid (HC.out W0 (HB.out.later G0.below))
  clear HC
  refine ⟨trivial, (callsIn_wide.2 HCL.out).mono ?_⟩
  clear HCL
  rintro e w1 ⟨rfl, g1⟩
  have F0 := Lib.hid (f0.later g1.below)
  have F1 := Lib.hid (f1.later g1.below)
  have G1 := G0.trans g1
  clear f0 f1 g1 G0
  obtain ⟨c1, c2, l0⟩ := F0.out.two
  have l1 := F1.out.lt
  gi_wp2_with fail
  refine ⟨trivial, (callsIn_wide.2 (branches_any _ _ _)).mono ?_⟩
  rintro e w3 ⟨rfl, rfl⟩
  gi_wp2_with fail
  obtain ⟨W1, hW1⟩ : ∃ W1, W1 = w1.alloc (.cells #[.slice ob m cb, .slice ol q cl] 25) := ⟨_, rfl⟩
  have g3 : Gr w1 W1 := by rw [hW1]; exact Gr.alloc _ _
  have x1 : Blk W1 w1.heap.size #[.slice ob m cb, .slice ol q cl] 25 := by rw [hW1]; exact Blk.new _ _ _
  rw [← hW1]
  clear hW1 c1 c2
  have I0 : MInv 25 4 w w1.heap.size (.slice ob m cb) (.slice ol q cl) W1 := ⟨F1.out.later g3.below, x1, (G1.trans g3).below⟩
  have hseq := branches1_in 5 (by decide) w1.heap.size (.slice ob m cb) (.slice ol q cl) bs lv (by rw [← HQ.out]; exact HCD.out) (by rw [← HM.out]; exact hbs)
  have HI0 := Lib.hid I0
  have hw1 : w.heap.size ≤ W1.heap.size := I0.low.size
  have hw2 : w.heap.size + 1 < W1.heap.size := I0.f1.lt
  clear I0 x1
  refine rangeG (α := Br) rfl (by decide) (gf := 120) (lb := #[.pointer (some ⟨w1.heap.size, 0, none⟩)]) rfl trivial (enters_of Try.func120 (by kernel_rfl) rfl) hseq (fun _ => rfl)
    (fun pre W => MInv 25 4 w w1.heap.size (.slice ob m cb) (.slice ol q cl) W ∧ ∀ x ∈ pre, Rises (lvs lv x))
    (fun c pre W => c = .ret ∧ MInv 25 4 w w1.heap.size (.slice ob m cb) (.slice ol q cl) W ∧ ∃ x ∈ bs, ¬ Rises (lvs lv x)) ?low ?lowx ?kt ?later ⟨HI0.out, by simp⟩
    (fun x _ => { tmps := #[.agg #[.slice ob m cb, .slice ol q cl], .pointer (some ⟨w.heap.size, 0, none⟩), .pointer (some ⟨w.heap.size + 1, 0, none⟩), undef, sub3 (.slice ol q cl) x.2.1.toNat x.2.2.toNat, .pointer (some ⟨w.heap.size, 1, none⟩), .slice ol q cl, .int .i64 (q : Int), .bool false, .bool false, .agg #[.slice ob m cb, .slice ol q cl], .bool true, .bool false, .bool false, .agg #[.slice ob m cb, .slice ol q cl], .func (.func 120) #[] #[.pointer (some ⟨w1.heap.size, 0, none⟩)], .int .u64 x.1, sub3 (.slice ol q cl) x.2.1.toNat x.2.2.toNat, undef, undef, undef], defers := [] }) (fun _ _ _ => True) (fun _ _ _ _ _ _ => trivial) ?assign ?body ?done ?stop
  case low => exact fun pre X X' h ha => ⟨h.1.aside ha hw1, h.2⟩
  case lowx => exact fun c pre X X' h ha => ⟨h.1, h.2.1.aside ha hw1, h.2.2⟩
  case kt => exact fun pre X h => h.1.kt HB.out HL.out
  case later => exact fun pre X X' h hb => ⟨h.1.later hb, h.2⟩
  case assign =>
    intro l x W K hK
    gi_wp2
    exact hK W.heap.size _ (Below.refl _ _) (Nat.le_refl _) trivial
  case body =>
    rintro lp pre x r W ⟨hI, hpre⟩ hlen hmem hn _
    obtain ⟨i, hi, rfl⟩ := List.getElem_of_mem hmem
    have hbr := HCD.out.br hi
    have hsg := (HL.out.later hI.low).lvs (x := bs[i]) hbr.1 hbr.2.2.1 (by have := HQ.out; omega)
    obtain ⟨x, hx⟩ : ∃ x, x = bs[i] := ⟨_, rfl⟩
    rw [← hx] at hsg hmem ⊢
    clear hx hbr hi hlen
    obtain ⟨v, hv⟩ : ∃ v, v = sub3 (.slice ol q cl) x.2.1.toNat x.2.2.toNat := ⟨_, rfl⟩
    rw [← hv] at hsg ⊢
    have HRI := Lib.hid (rises_any v _ W hsg)
    obtain ⟨y, hy⟩ : ∃ y, y = decide (Rises (lvs lv x)) := ⟨_, rfl⟩
    rw [← hy] at HRI
    have HI := Lib.hid hI
    have HN := Lib.hid hn
    have HP := Lib.hid hpre
    have HX := Lib.hid hmem
    have HY := Lib.hid hy
    clear hv hsg hI hn hpre hmem hy
    gi_wp2_with fail
    refine ⟨trivial, (CallsIn.inRound lp (callsIn_wide.2 HRI.out)).mono ?_⟩
    rintro e w4 ⟨rfl, g4⟩
    have I4 := HI.out.later g4.below
    have k4 := Keep2.of_below g4.below HN.out
    have n4 := HN.out.below g4.below
    have c3 := I4.f1.cell 0
    have z3 := I4.f1.frozen 0
    have l3 := I4.f1.lt
    simp only [List.getElem?_toArray, List.getElem?_cons_zero] at c3
    have HI4 := Lib.hid I4
    have HK4 := Lib.hid k4
    have HN4 := Lib.hid (n4.blk I4.f1)
    clear I4 k4 n4 g4
    cases y
    · gi_wp2_with fail
      refine ⟨HK4.out.setCell HN4.out.1 HN4.out.2 _, rfl, ⟨HI4.out.f1.set 0 _, HI4.out.x1.other (HI4.out.x1.ne HI4.out.f1 (by decide)) _, HI4.out.low.setCell (by simp) _⟩, _, HX.out, of_decide_eq_false HY.out.symm⟩
    · gi_wp2_with fail
      refine ⟨HK4.out, HI4.out, fun u hu => ?_⟩
      rcases List.mem_append.1 hu with hu | hu
      · exact HP.out u hu
      · obtain rfl : u = x := by simpa using hu
        exact of_decide_eq_true HY.out.symm
  case done =>
    rintro D xs W rfl ⟨hI, hall⟩ hD hdef
    have hT : R = true := by
      rw [HR.out, decide_eq_true_iff]
      exact ⟨by have := HQ.out; omega, by have := HCD.out; rwa [HQ.out] at this, hall⟩
    have HT := Lib.hid hT
    have c3 := hI.f1.cell 0
    have z3 := hI.f1.frozen 0
    have l3 := hI.f1.lt
    simp only [List.getElem?_toArray, List.getElem?_cons_zero] at c3
    have HI := Lib.hid hI
    have HD := Lib.hid hdef
    clear hI hdef hall hT
    gi_wp2
    have q3 := HI.out.f1.set 0 (.bool true)
    have hdf : (W.setCell ⟨w.heap.size + 1, 0, none⟩ (.bool true)).heap[D]? = some (.deferred (some [])) := (Below.heap_setCell _ _ _ _ (by simp; omega)).trans HD.out
    have lof := HI.out.low.setCell (p := ⟨w.heap.size + 1, 0, none⟩) (by simp) (.bool true)
    obtain ⟨Wf, hWf⟩ : ∃ Wf, Wf = W.setCell ⟨w.heap.size + 1, 0, none⟩ (.bool true) := ⟨_, rfl⟩
    rw [← hWf] at q3 hdf lof ⊢
    clear hWf c3 z3
    refine ⟨by simp, .inl ⟨_, _, rfl, run_takeDeferred hdf, ?_⟩⟩
    have r3 := (q3.putObj (.deferred none) hdf).cell 0
    simp at r3
    exact ⟨.bool true, by simp [results, Try.results56, go_sem, r3], by rw [HT.out], lof.trans (below_put' Wf _ (by omega))⟩
  case stop =>
    rintro D c pre W _ ⟨rfl, hI, x, hx, hnr⟩ hD hdef
    have hT : R = false := by
      rw [HR.out, decide_eq_false_iff_not]
      exact fun h => hnr (h.2.2 x hx)
    have HT := Lib.hid hT
    have c3 := hI.f1.cell 0
    have l3 := hI.f1.lt
    simp only [List.getElem?_toArray, List.getElem?_cons_zero] at c3
    have HI := Lib.hid hI
    have HD := Lib.hid hdef
    clear hI hdef hnr hx hT
    gi_wp2
    refine ⟨by simp, .inl ⟨_, _, rfl, run_takeDeferred HD.out, ?_⟩⟩
    have r3 := (HI.out.f1.putObj (.deferred none) HD.out).cell 0
    simp at r3
    exact ⟨.bool false, by simp [results, Try.results56, go_sem, r3], by rw [HT.out], HI.out.low.trans (below_put' W _ (by omega))⟩
theorem mayBe_any (vb vl : Value) (bs : List Br) (lv : List Int) (w : World) (hb : SegR w vb bs) (hl : Seg .u64 w vl lv) (hlv : lv.length ≤ 1048576) (hbs : bs.length ≤ 1000000000) :
    Calls Try.prog 56 #[.agg #[vb, vl]] w fun e w' => e = .returned (.bool (decide (ok7 bs lv))) ∧ Below w.heap.size w w' := by
  by_cases h : Chd lv.length bs
  · exact callsIn_wide.1 (mayBe_yes vb vl bs lv w hb hl hlv hbs h)
  · have e : decide (ok7 bs lv) = false := decide_eq_false fun k => h k.2.1
    rw [e]
    exact mayBe_no vb vl bs lv w hb hl hlv hbs h
end Go.Proofs.Ytjfnhjmdgfkgnaa

