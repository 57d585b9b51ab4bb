/- tiers.said: what tiers say, as a map. -/
import Derived.Test.YtlhigfphfbmbjaaW8
import Derived.Test.YtlhigfphfbmbjaaN13
import Derived.Test.YtlhigfphfbmbjaaKitB
import Derived.Laws.EntriesVeiled
namespace Go.Proofs.Ytlhigfphfbmbjaa
open Go.RowKit Go.Proofs.Kit Go.Shelf Go.Maps
attribute [local go_sem] Oper.semAt_some
/-- What holds between two rounds of said's loop. -/
structure SInv (w : World) (bm bw bs bx : Nat) (v : Value) (pre : List (Ti × Tr)) (X : World) : Prop where
  m : WM X bm (pre.length * 2000000) (sayR (pre.map (·.2)))
  k : Blk X bw #[.map (some bm)] 123
  s : Blk X bs #[.func (.func 104) #[] #[.pointer (some ⟨bw, 0, none⟩)]] 141
  x : Blk X bx #[v] 45
  low : Below w.heap.size w X
theorem SInv.later {w X X' : World} {bm bw bs bx : Nat} {v : Value} {pre : List (Ti × Tr)} (h : SInv w bm bw bs bx v pre X) (hb : Below X.heap.size X X') : SInv w bm bw bs bx v pre X' :=
  ⟨h.m.later hb, h.k.later hb, h.s.later hb, h.x.later hb, below_later h.low hb⟩
theorem SInv.aside {w X X' : World} {bm bw bs bx D : Nat} {v : Value} {pre : List (Ti × Tr)} (h : SInv w bm bw bs bx v pre X) (ha : Kit.Aside D X X') (hD : w.heap.size ≤ D) (hm : bm < D) : SInv w bm bw bs bx v pre X' :=
  ⟨h.m.same (ha.same bm (by omega) (by omega) h.m.lt), ha.blk h.k, ha.blk h.s, ha.blk h.x, ha.below h.low hD (Nat.le_refl _)⟩
/-- One row said. -/
theorem SInv.said {w X X' : World} {bm bw bs bx n : Nat} {v : Value} {pre : List (Ti × Tr)} {f : Pr → Int} (h : SInv w bm bw bs bx v pre X) (hm : WM X bm n f) (hg : X.grownBy X' (some bm)) (hB : w.heap.size ≤ bm) :
    Blk X' bw #[.map (some bm)] 123 ∧ Blk X' bs #[.func (.func 104) #[] #[.pointer (some ⟨bw, 0, none⟩)]] 141 ∧ Blk X' bx #[v] 45 ∧ Below w.heap.size w X' :=
  ⟨Blk.map h.k hm hg, Blk.map h.s hm hg, Blk.map h.x hm hg, h.low.grown hg h.low.size (by intro k hk; cases hk; exact hB)⟩
theorem say_two (f : Pr → Int) (t : Tr) (r : List Tr) (hf : f = sayR r) : sayP (sayP f t.1 1) t.2 2 = sayR (r ++ [t]) := by
  subst hf
  funext p
  rw [sayR_append, sayR_one]
  unfold sayP say1
  by_cases h0 : sayR r p = 0
  · simp only [h0, true_and, if_true]
    by_cases h1 : p ∈ t.1
    · simp [h1]
    · simp [h1]
  · simp [h0]
set_option maxRecDepth 100000 in
set_option maxHeartbeats 4000000 in
theorem said_in (l : List Ti) (L : List Tr) (o : Option Addr) (n c : Nat) (w : World) (hE : SegE tiE w (.slice o n c) l) (hl : l.length = n) (hL : L.length = n) (hT : ∀ i (h : i < l.length) (h' : i < L.length), TR w l[i] L[i]) (hW : Wl L) (hS : SmT 1000000 L) (hn : n ≤ 100) :
    CallsIn Fence.wide 6 Try.prog 87 #[.slice o n c] w fun e w' => ∃ bm, e = .returned (.map (some bm)) ∧ w.heap.size ≤ bm ∧ WM w' bm 200000000 (says L) ∧ Below w.heap.size w w' := by
  have hmk : ∀ (fn : Fn) (first cap : Array Value) (w : World), (Instr.makeFunc fn first cap).run Try.prog w = .ok (.func fn first cap) w := fun _ _ _ _ => rfl
  have hmm := @run_makeMap Try.prog
  refine callsIn_of_wp_marks Try.func87 rfl trivial ?_ rfl
  simp only [Try.ntmps87, List.size_toArray, List.length_cons, List.length_nil, Nat.reduceAdd, Nat.reduceSub, Array.replicate_succ, Array.replicate_zero, List.push_toArray, List.append_toArray, List.nil_append, List.cons_append]
  have HE := Lib.hid hE
  have HL := Lib.hid hl
  have HLL := Lib.hid hL
  have HT := Lib.hid hT
  have HW := Lib.hid hW
  have HS := Lib.hid hS
  clear hE hl hL hT hW hS
  gi_wp2_with fail
  refine ⟨trivial, (callsIn_wide.2 (newest_any _ _ _ _)).mono ?_⟩
  rintro e w3 ⟨rfl, rfl⟩
  gi_wp2_with fail
  obtain ⟨W1, hW1⟩ : ∃ W1, W1 = (((w.alloc (.map #[] 0)).alloc (.cells #[.map (some w.heap.size)] 123)).alloc (.cells #[.func (.func 104) #[] #[.pointer (some ⟨w.heap.size + 1, 0, none⟩)]] 141)).alloc (.cells #[.slice o n c] 45) := ⟨_, rfl⟩
  have G1 : Gr w W1 := by rw [hW1]; exact (((Gr.alloc _ _).trans (Gr.alloc _ _)).trans (Gr.alloc _ _)).trans (Gr.alloc _ _)
  have s1 : W1.heap.size = w.heap.size + 4 := by rw [hW1]; simp
  have m1 : WM W1 w.heap.size 0 (fun _ => 0) := by rw [hW1]; exact (((WM.made w).later (Gr.alloc _ _).below).later (Gr.alloc _ _).below).later (Gr.alloc _ _).below
  have k1 : Blk W1 (w.heap.size + 1) #[.map (some w.heap.size)] 123 := by
    rw [hW1]
    have := ((Blk.new (w.alloc (.map #[] 0)) #[.map (some w.heap.size)] 123).alloc (.cells #[.func (.func 104) #[] #[.pointer (some ⟨w.heap.size + 1, 0, none⟩)]] 141)).alloc (.cells #[.slice o n c] 45)
    simpa using this
  have k2 : Blk W1 (w.heap.size + 1 + 1) #[.func (.func 104) #[] #[.pointer (some ⟨w.heap.size + 1, 0, none⟩)]] 141 := by
    rw [hW1]
    have := (Blk.new ((w.alloc (.map #[] 0)).alloc (.cells #[.map (some w.heap.size)] 123)) #[.func (.func 104) #[] #[.pointer (some ⟨w.heap.size + 1, 0, none⟩)]] 141).alloc (.cells #[.slice o n c] 45)
    simpa using this
  have k3 : Blk W1 (w.heap.size + 1 + 1 + 1) #[.slice o n c] 45 := by
    rw [hW1]
    have := Blk.new (((w.alloc (.map #[] 0)).alloc (.cells #[.map (some w.heap.size)] 123)).alloc (.cells #[.func (.func 104) #[] #[.pointer (some ⟨w.heap.size + 1, 0, none⟩)]] 141)) #[.slice o n c] 45
    simpa using this
  rw [← hW1]
  clear hW1
  have I0 : SInv w w.heap.size (w.heap.size + 1) (w.heap.size + 1 + 1) (w.heap.size + 1 + 1 + 1) (.slice o n c) [] W1 := ⟨m1, k1, k2, k3, G1.below⟩
  have hseq := newest1_in 5 (by decide) (w.heap.size + 1 + 1 + 1) o n c l L HL.out HLL.out (by omega)
  have HI0 := Lib.hid I0
  have S1 := Lib.hid s1
  have hs1 : w.heap.size ≤ W1.heap.size := by omega
  have hs2 : w.heap.size < W1.heap.size := by omega
  clear I0 m1 k1 k2 k3 G1 s1
  refine rangeG (α := Ti × Tr) rfl (by decide) (gf := 114) (lb := #[.pointer (some ⟨w.heap.size + 1 + 1 + 1, 0, none⟩)]) rfl trivial (enters_of Try.func114 (by kernel_rfl) rfl) hseq (fun _ => rfl)
    (fun pre W => SInv w w.heap.size (w.heap.size + 1) (w.heap.size + 1 + 1) (w.heap.size + 1 + 1 + 1) (.slice o n c) pre W)
    (fun _ _ _ => False) (fun pre X X' h ha => h.aside ha hs1 hs2) (fun _ _ _ _ h _ => h) (fun pre X h => ⟨h.x, HE.out.below h.low (Nat.le_refl _)⟩) (fun pre X X' h hb => h.later hb) HI0.out
    (fun x r => { tmps := #[.slice o n c, undef, .map none, .pointer (some ⟨w.heap.size + 1, 0, none⟩), .pointer (some ⟨w.heap.size + 1 + 1, 0, none⟩), .pointer (some ⟨r, 0, none⟩), .map (some w.heap.size), .func (.func 104) #[] #[.pointer (some ⟨w.heap.size + 1, 0, none⟩)], .slice o n c, .func (.func 114) #[] #[.pointer (some ⟨w.heap.size + 1 + 1 + 1, 0, none⟩)], .agg #[.slice x.1.ao x.1.an x.1.ac, .slice x.1.bo x.1.bn x.1.bc], undef, undef, undef, undef, undef, undef, undef, undef, undef], defers := [] })
    (fun x r W => Blk W r #[.slice x.1.ao x.1.an x.1.ac, .slice x.1.bo x.1.bn x.1.bc] 24) (fun x r X X' h ha => ha.blk h) ?assign ?body ?done ?stop
  case assign =>
    intro lp x W K hK
    gi_wp2
    exact hK _ _ (Gr.alloc _ _).below (Nat.le_refl _) (Blk.new _ _ _)
  case body =>
    rintro lp pre ⟨x, t⟩ r W hI hlen hG hn hR
    obtain ⟨q, hql, hqL, he⟩ := hG
    injection he with he1 he2
    have hTR : TR w x t := by rw [he1, he2]; exact HT.out q hql hqL
    have hWt : Wt t := by rw [he2]; exact HW.out _ (List.getElem_mem hqL)
    have hSt := HS.out t (by rw [he2]; exact List.getElem_mem hqL)
    have HTR := Lib.hid hTR
    have HWT := Lib.hid hWt
    have HST := Lib.hid hSt
    obtain ⟨ao, an, ac, bo, bn, bc⟩ := x
    simp only at hR HTR
    have c4 := hI.s.cell 0
    have d0 := hR.cell 0
    have d1 := hR.cell 1
    have l4 := hI.s.lt
    have lr := hR.lt
    simp only [List.getElem?_toArray, List.getElem?_cons_zero, List.getElem?_cons_succ] at c4 d0 d1
    have hp : pre.length ≤ 100 := by omega
    have HA := Lib.hid (said1_any _ t.1 1 (.inl rfl) (w.heap.size + 1) w.heap.size _ _ W (HTR.out.a.below hI.low (Nat.le_refl _)) hWt.1 hI.k hI.m (by have := hSt.1; omega))
    have HI := Lib.hid hI
    have HR := Lib.hid hR
    have HN := Lib.hid hn
    clear hI hR hn he1 he2 hql hqL hTR hWt hSt
    gi_wp2_with fail
    refine ⟨trivial, (CallsIn.inRound lp (callsIn_wide.2 HA.out)).mono ?_⟩
    rintro e w4 ⟨rfl, m4, g4⟩
    obtain ⟨kk4, ks4, kx4, lo4⟩ := HI.out.said HI.out.m g4 (Nat.le_refl _)
    have R4 := Blk.map HR.out HI.out.m g4
    have K4 := Keep2.of_grown g4 HN.out (by intro r hr; cases hr; omega)
    have N4 : NC W1.heap.size w4 := ⟨Nat.lt_of_lt_of_le HN.out.1 g4.size, fun k vs tt f hk e => HN.out.2 k vs tt f hk ((g4.block k (by have := HN.out.1; omega) (by rcases hk with rfl | rfl <;> simp <;> omega)).symm.trans e)⟩
    have c4 := ks4.cell 0
    have d0 := R4.cell 0
    have d1 := R4.cell 1
    have l4 := ks4.lt
    have lr := R4.lt
    simp only [List.getElem?_toArray, List.getElem?_cons_zero, List.getElem?_cons_succ] at c4 d0 d1
    have HB := Lib.hid (said1_any _ t.2 2 (.inr rfl) (w.heap.size + 1) w.heap.size _ _ w4 (HTR.out.b.below lo4 (Nat.le_refl _)) HWT.out.2 kk4 m4 (by have := HST.out; omega))
    have KK4 := Lib.hid kk4
    have KS4 := Lib.hid ks4
    have KX4 := Lib.hid kx4
    have LO4 := Lib.hid lo4
    have M4 := Lib.hid m4
    have HK4 := Lib.hid K4
    have HN4 := Lib.hid N4
    clear g4 m4 kk4 ks4 kx4 lo4 R4 K4 N4 HA
    gi_wp2_with fail
    refine ⟨trivial, (CallsIn.inRound lp (callsIn_wide.2 HB.out)).mono ?_⟩
    rintro e w5 ⟨rfl, m5, g5⟩
    have M5 := Lib.hid m5
    have G5 := Lib.hid g5
    clear m5 g5 c4 d0 d1 l4 lr HB
    gi_wp2_with fail
    refine ⟨HK4.out.trans (Keep2.of_grown G5.out HN4.out (by intro r hr; cases hr; omega)), ?_⟩
    refine ⟨?_, Blk.map KK4.out M4.out G5.out, Blk.map KS4.out M4.out G5.out, Blk.map KX4.out M4.out G5.out, LO4.out.grown G5.out LO4.out.size (by intro k hk; cases hk; exact Nat.le_refl _)⟩
    rw [List.map_append, List.map_cons, List.map_nil, ← say_two _ t _ rfl]
    refine M5.out.mono ?_
    have := HST.out
    simp
    omega
  case done =>
    rintro D ys W rfl hI hD hK
    have k3 := hI.k.cell 0
    have l3 := hI.k.lt
    simp only [List.getElem?_toArray, List.getElem?_cons_zero] at k3
    have HI := Lib.hid hI
    have HK := Lib.hid hK
    clear hI hK
    gi_wp2
    refine ⟨by simp, .inl ⟨_, _, rfl, run_takeDeferred HK.out, ?_⟩⟩
    refine ⟨.map (some w.heap.size), by simp [results, Try.results87, go_sem], w.heap.size, rfl, Nat.le_refl _, ?_, HI.out.low.trans (below_put' W _ (by omega))⟩
    have hm := HI.out.m
    rw [told_snd (HL.out.trans HLL.out.symm), told_len HL.out HLL.out] at hm
    exact (hm.mono (by omega)).same (World.putObj_heap_other (by omega))
  case stop =>
    rintro D c pre W _ h
    exact h.elim
theorem said_any (v : Value) (L : List Tr) (w : World) (h : SegT w v L) (hW : Wl L) (hS : SmT 1000000 L) (hn : L.length ≤ 100) :
    Calls Try.prog 87 #[v] w fun e w' => ∃ bm, e = .returned (.map (some bm)) ∧ w.heap.size ≤ bm ∧ WM w' bm 200000000 (says L) ∧ Below w.heap.size w w' := by
  obtain ⟨l, h1, h2, h3⟩ := h
  obtain ⟨o, c, rfl, _⟩ := h1.shape
  rw [h2] at h1 ⊢
  exact (callsIn_wide (n := 6)).1 (said_in l L o L.length c w h1 h2 rfl h3 hW hS hn)
end Go.Proofs.Ytlhigfphfbmbjaa

