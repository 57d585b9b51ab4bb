import Derived.Test.YtlhigfphfbmbjaaZF
import Derived.Test.YtlhigfphfbmbjaaW5
import Derived.Test.YtlhigfphfbmbjaaInvZ
/- View: Of. -/
namespace Go.Proofs.Ytlhigfphfbmbjaa
open Go.RowKit Go.Proofs.Kit Go.Shelf
theorem all_reached {L : List Tr} (hW : Wl L) : ((those L 1).filter fun q => (fun _ => true) q && decide (0 ≤ cf2 q (0, 0))) = those L 1 := by
  refine List.filter_eq_self.2 fun q hq => ?_
  have hw := those_w hW 1 q hq
  have h := cf2_neg q (0, 0)
  rw [Bool.true_and, decide_eq_true_eq]
  by_cases c : cf2 q (0, 0) < 0
  · have := h.1 c
    unfold lt2 at this
    unfold Wp Wd at hw
    omega
  · omega
set_option maxRecDepth 100000 in
set_option maxHeartbeats 4000000 in
theorem vOf_any (v : Value) (L : List Tr) (w : World) (h : SegT w v L) (hg : goodT L) (hW : Wl L) (hS : SmT 500000 L) :
    Calls Try.prog 32 #[v] w fun e w' => ∃ lo hi a, e = .returned (.tuple #[ptr9 a, .int .i64 0]) ∧ VS 100 lo lo hi w' a L (those L 1) ∧ w.heap.size ≤ lo ∧ Below w.heap.size w w' := by
  have HC := Lib.hid (check11_any v L w h hS)
  rw [ckT_yes hg] at HC
  have HH := Lib.hid (fun W (hb : Below w.heap.size w W) => headsOf_any v L W (h.later hb) hg)
  have HG := Lib.hid (And.intro hg hW)
  obtain ⟨o, c, rfl, hc, hm⟩ := h.shape
  clear h hg hW hc
  go_enter Try.func32, Try.ntmps32
  go_wp2_with fail
  refine (HC.out).mono ?_
  rintro e w1 ⟨rfl, b1⟩
  have B1 := Lib.hid b1
  clear b1
  go_wp2_with fail
  refine (HH.out _ B1.out).mono ?_
  rintro e w2 ⟨c2, o2, xs, a2, rfl, v2, hp2, i2, b2⟩
  have L2 := Lib.hid (below_later B1.out b2)
  have gA := Gr.alloc w2 (.cells #[.slice o2 xs.length c2] 100)
  have hs2 : w1.heap.size + 1 ≤ w2.heap.size := by have := v2.ahi; have := v2.alo; omega
  have v3 := (v2.gr gA).rebox (Blk.new w2 #[.slice o2 xs.length c2] 100) (hi' := w2.heap.size + 1) (by decide) (by omega) (Nat.lt_succ_self _) (Nat.le_succ _) (by simp)
  have HGO := Lib.hid (goTo_any (far_reached (0, 0)) HG.out.1 (G0 := fun _ => true) (fun _ _ _ _ => rfl) v3 hp2 i2 (fun _ _ _ _ => rfl))
  rw [all_reached HG.out.2] at HGO
  have L3 := Lib.hid (below_later L2.out gA.below)
  have hws := B1.out.size
  clear v2 hp2 i2 b2 v3 gA
  go_wp2_with (go_at_call 66; refine (HGO.out).mono ?_; rintro e w3 ⟨rfl, c3, o3, ys, v3, at3, m3⟩; have H3 := Lib.hid (And.intro v3 (And.intro at3 m3)); clear v3 at3 m3)
  refine bodyPost_ret (results_tmp2 rfl _ _ _) rfl ?_
  exact ⟨w1.heap.size + 1, w2.heap.size + 1, w2.heap.size, rfl, ⟨c3, o3, ys, H3.out.1, H3.out.2.1⟩, by omega, L3.out.trans (H3.out.2.2.below (fun k hk => by omega) L3.out.size)⟩
set_option maxRecDepth 100000 in
theorem vOf_no (v : Value) (L : List Tr) (w : World) (h : SegT w v L) (hg : ¬ goodT L) (hS : SmT 500000 L) :
    Calls Try.prog 32 #[v] w fun e w' => e = .returned (.tuple #[.pointer none, .int .i64 210]) ∧ Below w.heap.size w w' := by
  have HC := Lib.hid (check11_any v L w h hS)
  rw [ckT_no hg] at HC
  obtain ⟨o, c, rfl, hc, hm⟩ := h.shape
  clear h hg hc
  go_enter Try.func32, Try.ntmps32
  go_wp2_with (go_at_call 26; refine (HC.out).mono ?_; rintro e w1 ⟨rfl, b1⟩; have B1 := Lib.hid b1; clear b1)
  exact bodyPost_ret (results_tmp2 rfl _ _ _) rfl ⟨rfl, B1.out⟩
theorem vRest_any {rlo lo hi : Nat} {w : World} {a : Nat} {L : List Tr} {R : List Pr} (h : VS 100 rlo lo hi w a L R) (hl : R.length ≤ 1000000) :
    Calls Try.prog 41 #[ptr9 a] w fun e w' => ∃ v', e = .returned v' ∧ OwnP 53 w.heap.size w' v' R ∧ Below w.heap.size w w' := callsIn_wide.1 (vRest_in h hl)
end Go.Proofs.Ytlhigfphfbmbjaa


/- small and wakes of stage 13's laws. -/
namespace Go.Proofs.Kit
open Go.RowKit
def smallT : List Tr := [([(1, 1), (2, 2)], []), ([(3, 3)], [(1, 1)])]
theorem smallT_w : Wl smallT := by
  intro t ht
  simp [smallT] at ht
  rcases ht with rfl | rfl <;> constructor <;> intro p hp <;> simp at hp
  · rcases hp with rfl | rfl <;> simp [Wp, Wd]
  · subst hp; simp [Wp, Wd]
  · subst hp; simp [Wp, Wd]
theorem smallT_s : SmT 10000 smallT := by
  intro t ht
  simp [smallT] at ht
  rcases ht with rfl | rfl <;> simp
theorem Mid.blk9 {lo hi b : Nat} {X X' : World} {vs : Array Value} {t : TypeId} (hm : Mid lo hi X X') (hb : Blk X b vs t) (h : hi ≤ b) : Blk X' b vs t := hm.blk hb (fun k => by omega)
theorem Mid.own9 {lo hi B : Nat} {X X' : World} {v : Value} {l : List Pr} {t : TypeId} (hm : Mid lo hi X X') (ho : OwnP t B X v l) (h : hi ≤ B) : OwnP t B X' v l := ho.same fun g hg => hm.same g (fun k => by have := (ho.lt g hg).1; omega) (ho.lt g hg).2
theorem wk4 : those smallT 1 = [(2, 2), (3, 3)] := by decide
theorem wkg : goodT smallT := by decide
end Go.Proofs.Kit
namespace Go.Proofs.Ytlhigfphfbmbjaa
open Go.RowKit Go.Proofs.Kit Go.Shelf
set_option maxRecDepth 100000 in
set_option maxHeartbeats 1000000 in
theorem pair13_any (x : Int) (w : World) : Calls Try.prog 43 #[.int .u64 x] w fun e w' => e = .returned (PV x x) ∧ Gr w w' := by
  go_enter Try.func43, Try.ntmps43
  go_wp2
  have C0 := (Blk.new w #[.int .u64 x, .int .u64 x] 53).cell 0
  have C1 := (Blk.new w #[.int .u64 x, .int .u64 x] 53).cell 1
  simp only [List.getElem?_toArray, List.getElem?_cons_zero, List.getElem?_cons_succ] at C0 C1
  exact bodyPost_ret (v := PV x x) (by simp [results, Try.results43, go_sem, C0, C1]) rfl ⟨rfl, Gr.alloc _ _⟩
set_option maxRecDepth 100000 in
set_option maxHeartbeats 4000000 in
theorem small13_any (w : World) : Calls Try.prog 64 #[] w fun e w' => ∃ v', e = .returned v' ∧ OwnT 53 24 w.heap.size w' v' smallT ∧ Below w.heap.size w w' := by
  have hP := fun (x : Int) W => pair13_any x W
  have HP := Lib.hid hP
  clear hP
  have hbd : ∀ (a b c : _) w, (Instr.build 24 #[(0, .slice a b c)]).run Try.prog w = .ok (.agg #[.slice a b c, .slice none 0 0]) w := fun a b c w => by kernel_rfl
  go_enter Try.func64, Try.ntmps64
  go_wp2_with fail
  refine (HP.out 1 _).mono ?_
  rintro e w1 ⟨rfl, g1⟩
  go_wp2_with fail
  refine (HP.out 2 _).mono ?_
  rintro e w2 ⟨rfl, g2⟩
  have L2 := Lib.hid (g1.trans g2).below
  have O1 : OwnP 53 w.heap.size (w2.alloc (.cells #[.int .u64 1, .int .u64 1, .int .u64 2, .int .u64 2] 53)) (.slice (some ⟨w2.heap.size, 0, none⟩) 2 2) [(1, 1), (2, 2)] := OwnP.new (l := [(1, 1), (2, 2)]) L2.out.size rfl (by simp)
  have HO1 := Lib.hid O1
  clear g1 g2 O1
  go_wp2_with fail
  refine (HP.out 3 _).mono ?_
  rintro e w3 ⟨rfl, g3⟩
  have L3 := Lib.hid (below_later (L2.out.alloc L2.out.size _) g3.below)
  have HO13 := Lib.hid (HO1.out.later g3.below)
  have O2 : OwnP 53 w.heap.size (w3.alloc (.cells #[.int .u64 3, .int .u64 3] 53)) (.slice (some ⟨w3.heap.size, 0, none⟩) 1 1) [(3, 3)] := OwnP.new (l := [(3, 3)]) L3.out.size rfl (by simp)
  have HO2 := Lib.hid O2
  clear g3 O2
  go_wp2_with fail
  refine (HP.out 1 _).mono ?_
  rintro e w4 ⟨rfl, g4⟩
  have L4 := Lib.hid (below_later (L3.out.alloc L3.out.size _) g4.below)
  have HO14 := Lib.hid ((HO13.out.alloc _).later g4.below)
  have HO24 := Lib.hid (HO2.out.later g4.below)
  have O3 : OwnP 53 w.heap.size (w4.alloc (.cells #[.int .u64 1, .int .u64 1] 53)) (.slice (some ⟨w4.heap.size, 0, none⟩) 1 1) [(1, 1)] := OwnP.new (l := [(1, 1)]) L4.out.size rfl (by simp)
  have HO3 := Lib.hid O3
  clear g4 O3
  go_wp2
  go_ret
  have gA := Gr.alloc (w4.alloc (.cells #[.int .u64 1, .int .u64 1] 53)) (.cells #[.slice (some ⟨w2.heap.size, 0, none⟩) 2 2, .slice none 0 0, .slice (some ⟨w3.heap.size, 0, none⟩) 1 1, .slice (some ⟨w4.heap.size, 0, none⟩) 1 1] 24)
  have L5 := L4.out.alloc L4.out.size (.cells #[.int .u64 1, .int .u64 1] 53)
  refine ⟨_, rfl, ⟨[⟨some ⟨w2.heap.size, 0, none⟩, 2, 2, none, 0, 0⟩, ⟨some ⟨w3.heap.size, 0, none⟩, 1, 1, some ⟨w4.heap.size, 0, none⟩, 1, 1⟩], ?_, rfl, fun i a b => ?_⟩, below_later L5 gA.below⟩
  · have := OwnE.new (E := tiE) (t := 24) (B := w.heap.size) (w := w4.alloc (.cells #[.int .u64 1, .int .u64 1] 53)) (l := [⟨some ⟨w2.heap.size, 0, none⟩, 2, 2, none, 0, 0⟩, ⟨some ⟨w3.heap.size, 0, none⟩, 1, 1, some ⟨w4.heap.size, 0, none⟩, 1, 1⟩]) (vs := #[.slice (some ⟨w2.heap.size, 0, none⟩) 2 2, .slice none 0 0, .slice (some ⟨w3.heap.size, 0, none⟩) 1 1, .slice (some ⟨w4.heap.size, 0, none⟩) 1 1]) L5.size rfl (by simp [tiE])
    simpa using this
  · have : i = 0 ∨ i = 1 := by simp at a; omega
    rcases this with rfl | rfl
    · exact ⟨(HO14.out.alloc _).later gA.below, OwnP.nil _ _ _⟩
    · exact ⟨(HO24.out.alloc _).later gA.below, HO3.out.later gA.below⟩
theorem equal23 (ro : Option Addr) (rc bq : Nat) (w : World) (h : SegP w (.slice ro 2 rc) [(2, 2), (3, 3)]) (hb : Blk w bq #[.int .u64 2, .int .u64 2, .int .u64 3, .int .u64 3] 53) : Calls Try.prog 28 #[.slice ro 2 rc, .slice (some ⟨bq, 0, none⟩) 2 2] w fun e w' => e = .returned (.bool true) ∧ Gr w w' :=
  equalP_seg _ _ [(2, 2), (3, 3)] [(2, 2), (3, 3)] w h (SegP.of_blk (l := [(2, 2), (3, 3)]) (cap := 2) hb (by simp) (by decide) rfl)
structure WK13I (w0 : World) (va bp bz : Nat) (ro : Option Addr) (rc : Nat) (q11 q12 q13 q14 q15 q16 q17 q18 q19 q20 q21 q22 q23 q24 q25 q26 q27 q28 q29 q30 q31 q32 q33 q34 q35 q36 q37 q38 q39 q40 : Value) (L : Nat → Bool) (w : World) (t0 t41 t42 t43 t44 t45 t46 t47 t48 t49 t50 t51 t52 t53 t54 t55 t56 t57 t58 t59 t60 t61 t62 t63 t64 t65 t66 t67 t68 t69 t70 t71 t72 t73 : Value) (bq : Nat) : Prop where
  low : Below w0.heap.size w0 w
  kp : Blk w bp #[.int .u64 2, .int .u64 2] 53
  kz : Blk w bz #[.int .u64 3, .int .u64 3] 53
  ks : SegP w (.slice ro 2 rc) [(2, 2), (3, 3)]
  h0 : L 0 = true → t41 = .bool true
  h1 : L 1 = true → t42 = .bool true
  h2 : L 2 = true → t43 = .bool true
  h3 : L 3 = true → t44 = .bool true
  h4 : L 4 = true → t45 = .bool true
  h5 : L 5 = true → t46 = .int .i64 0
  h6 : L 6 = true → t47 = .bool true
  h7 : L 7 = true → t48 = .bool true
  h8 : L 8 = true → t49 = .bool true
  h9 : L 9 = true → t50 = .int .i64 0
  h10 : L 10 = true → t51 = .bool true
  h11 : L 11 = true → t52 = .bool true
  h12 : L 12 = true → t53 = .bool true
  h13 : L 13 = true → t54 = .int .i64 4
  h14 : L 14 = true → t55 = .bool true
  h15 : L 15 = true → t56 = .bool true
  h16 : L 16 = true → t57 = .bool true
  h17 : L 17 = true → t58 = .agg #[.int .u64 2, .int .u64 2]
  h18 : L 18 = true → t59 = .agg #[.int .u64 2, .int .u64 2]
  h19 : L 19 = true → t60 = .bool true
  h20 : L 20 = true → t61 = .bool true
  h21 : L 21 = true → t62 = .bool true
  h22 : L 22 = true → t63 = .agg #[.int .u64 3, .int .u64 3]
  h23 : L 23 = true → t64 = .agg #[.int .u64 3, .int .u64 3]
  h24 : L 24 = true → t65 = .bool true
  h25 : L 25 = true → t66 = .bool true
  h26 : L 26 = true → t67 = .bool true
  h27 : L 27 = true → t68 = .slice ro 2 rc
  h28 : L 28 = true → t69 = .agg #[.int .u64 2, .int .u64 2]
  h29 : L 29 = true → t70 = .agg #[.int .u64 3, .int .u64 3]
  h30 : L 30 = true → t71 = .slice (some ⟨bq, 0, none⟩) 2 2 ∧ Blk w bq #[.int .u64 2, .int .u64 2, .int .u64 3, .int .u64 3] 53
  h31 : L 31 = true → t72 = .bool true
  h32 : L 32 = true → t73 = .bool true
  h33 : L 33 = true → t0 = .bool true
def WK13V (w0 : World) (va bp bz : Nat) (ro : Option Addr) (rc : Nat) (q11 q12 q13 q14 q15 q16 q17 q18 q19 q20 q21 q22 q23 q24 q25 q26 q27 q28 q29 q30 q31 q32 q33 q34 q35 q36 q37 q38 q39 q40 : Value) (L : Nat → Bool) (a : Act) (X : World) : Prop :=
  ∃ t0 t41 t42 t43 t44 t45 t46 t47 t48 t49 t50 t51 t52 t53 t54 t55 t56 t57 t58 t59 t60 t61 t62 t63 t64 t65 t66 t67 t68 t69 t70 t71 t72 t73 bq, a = { tmps := #[t0, ptr9 va, .int .i64 0, .pointer (some ⟨bp, 0, none⟩), .bool true, .slice ro 2 rc, .int .i64 0, .pointer (some ⟨bz, 0, none⟩), .bool true, .int .i64 0, .int .i64 4, q11, q12, q13, q14, q15, q16, q17, q18, q19, q20, q21, q22, q23, q24, q25, q26, q27, q28, q29, q30, q31, q32, q33, q34, q35, q36, q37, q38, q39, q40, t41, t42, t43, t44, t45, t46, t47, t48, t49, t50, t51, t52, t53, t54, t55, t56, t57, t58, t59, t60, t61, t62, t63, t64, t65, t66, t67, t68, t69, t70, t71, t72, t73], defers := [] } ∧ WK13I w0 va bp bz ro rc q11 q12 q13 q14 q15 q16 q17 q18 q19 q20 q21 q22 q23 q24 q25 q26 q27 q28 q29 q30 q31 q32 q33 q34 q35 q36 q37 q38 q39 q40 L X t0 t41 t42 t43 t44 t45 t46 t47 t48 t49 t50 t51 t52 t53 t54 t55 t56 t57 t58 t59 t60 t61 t62 t63 t64 t65 t66 t67 t68 t69 t70 t71 t72 t73 bq
set_option maxRecDepth 100000 in
set_option maxHeartbeats 32000000 in
theorem WK13_region {Q : Exit → Act → World → Prop} (w0 : World) (va bp bz : Nat) (ro : Option Addr) (rc : Nat) (q11 q12 q13 q14 q15 q16 q17 q18 q19 q20 q21 q22 q23 q24 q25 q26 q27 q28 q29 q30 q31 q32 q33 q34 q35 q36 q37 q38 q39 q40 : Value) (W : World) (a : Act) (ha : a = { tmps := #[.bool false, ptr9 va, .int .i64 0, .pointer (some ⟨bp, 0, none⟩), .bool true, .slice ro 2 rc, .int .i64 0, .pointer (some ⟨bz, 0, none⟩), .bool true, .int .i64 0, .int .i64 4, q11, q12, q13, q14, q15, q16, q17, q18, q19, q20, q21, q22, q23, q24, q25, q26, q27, q28, q29, q30, q31, q32, q33, q34, q35, q36, q37, q38, q39, q40, undef, undef, undef, undef, undef, undef, undef, undef, undef, undef, undef, undef, undef, undef, undef, undef, undef, undef, undef, undef, undef, undef, undef, undef, undef, undef, undef, undef, undef, undef, undef, undef, undef], defers := [] }) (hlow : Below w0.heap.size w0 W) (hkp : Blk W bp #[.int .u64 2, .int .u64 2] 53) (hkz : Blk W bz #[.int .u64 3, .int .u64 3] 53) (hks : SegP W (.slice ro 2 rc) [(2, 2), (3, 3)])
    
    (hQ : ∀ L t0 t41 t42 t43 t44 t45 t46 t47 t48 t49 t50 t51 t52 t53 t54 t55 t56 t57 t58 t59 t60 t61 t62 t63 t64 t65 t66 t67 t68 t69 t70 t71 t72 t73 bq X, (∀ i, i < 34 → L i = true) → WK13I w0 va bp bz ro rc q11 q12 q13 q14 q15 q16 q17 q18 q19 q20 q21 q22 q23 q24 q25 q26 q27 q28 q29 q30 q31 q32 q33 q34 q35 q36 q37 q38 q39 q40 L X t0 t41 t42 t43 t44 t45 t46 t47 t48 t49 t50 t51 t52 t53 t54 t55 t56 t57 t58 t59 t60 t61 t62 t63 t64 t65 t66 t67 t68 t69 t70 t71 t72 t73 bq → Q .normal { tmps := #[t0, ptr9 va, .int .i64 0, .pointer (some ⟨bp, 0, none⟩), .bool true, .slice ro 2 rc, .int .i64 0, .pointer (some ⟨bz, 0, none⟩), .bool true, .int .i64 0, .int .i64 4, q11, q12, q13, q14, q15, q16, q17, q18, q19, q20, q21, q22, q23, q24, q25, q26, q27, q28, q29, q30, q31, q32, q33, q34, q35, q36, q37, q38, q39, q40, t41, t42, t43, t44, t45, t46, t47, t48, t49, t50, t51, t52, t53, t54, t55, t56, t57, t58, t59, t60, t61, t62, t63, t64, t65, t66, t67, t68, t69, t70, t71, t72, t73], defers := [] } X) :
    (Code.region 9 #[{ dst := some 41, op := Op.move (Operand.tmp 4), type := 4, pos := "law.go:32", after := #[], guard := none }, { dst := some 42, op := Op.move (Operand.tmp 41), type := 4, pos := "law.go:32", after := #[{ on := 0, ground := Ground.data }], guard := none }, { dst := some 43, op := Op.move (Operand.tmp 8), type := 4, pos := "law.go:32", after := #[{ on := 1, ground := Ground.guard }], guard := some (1, true) }, { dst := some 44, op := Op.pick (Operand.tmp 42) (Operand.tmp 43) (Operand.const (Value.bool false)), type := 4, pos := "law.go:32", after := #[{ on := 1, ground := Ground.data }, { on := 2, ground := Ground.data }], guard := none }, { dst := some 45, op := Op.move (Operand.tmp 44), type := 4, pos := "law.go:32", after := #[{ on := 3, ground := Ground.data }, { on := 1, ground := Ground.chain }], guard := none }, { dst := some 46, op := Op.move (Operand.tmp 6), type := 30, pos := "law.go:32", after := #[{ on := 4, ground := Ground.guard }], guard := some (4, true) }, { dst := some 47, op := Op.binOp BinOp.eql 30 (Operand.tmp 46) (Operand.const (Value.int IntKind.i64 0)) 30, type := 4, pos := "law.go:32", after := #[{ on := 5, ground := Ground.data }, { on := 4, ground := Ground.guard }], guard := some (4, true) }, { dst := some 48, op := Op.pick (Operand.tmp 45) (Operand.tmp 47) (Operand.const (Value.bool false)), type := 4, pos := "law.go:32", after := #[{ on := 4, ground := Ground.data }, { on := 6, ground := Ground.data }], guard := none }, { dst := some 49, op := Op.move (Operand.tmp 48), type := 4, pos := "law.go:32", after := #[{ on := 7, ground := Ground.data }, { on := 4, ground := Ground.chain }], guard := none }, { dst := some 50, op := Op.move (Operand.tmp 9), type := 30, pos := "law.go:32", after := #[{ on := 8, ground := Ground.guard }], guard := some (8, true) }, { dst := some 51, op := Op.binOp BinOp.eql 30 (Operand.tmp 50) (Operand.const (Value.int IntKind.i64 0)) 30, type := 4, pos := "law.go:32", after := #[{ on := 9, ground := Ground.data }, { on := 8, ground := Ground.guard }], guard := some (8, true) }, { dst := some 52, op := Op.pick (Operand.tmp 49) (Operand.tmp 51) (Operand.const (Value.bool false)), type := 4, pos := "law.go:32", after := #[{ on := 8, ground := Ground.data }, { on := 10, ground := Ground.data }], guard := none }, { dst := some 53, op := Op.move (Operand.tmp 52), type := 4, pos := "law.go:32", after := #[{ on := 11, ground := Ground.data }, { on := 8, ground := Ground.chain }], guard := none }, { dst := some 54, op := Op.move (Operand.tmp 10), type := 30, pos := "law.go:32", after := #[{ on := 12, ground := Ground.guard }], guard := some (12, true) }, { dst := some 55, op := Op.binOp BinOp.eql 30 (Operand.tmp 54) (Operand.const (Value.int IntKind.i64 4)) 30, type := 4, pos := "law.go:32", after := #[{ on := 13, ground := Ground.data }, { on := 12, ground := Ground.guard }], guard := some (12, true) }, { dst := some 56, op := Op.pick (Operand.tmp 53) (Operand.tmp 55) (Operand.const (Value.bool false)), type := 4, pos := "law.go:32", after := #[{ on := 12, ground := Ground.data }, { on := 14, ground := Ground.data }], guard := none }, { dst := some 57, op := Op.move (Operand.tmp 56), type := 4, pos := "law.go:32", after := #[{ on := 15, ground := Ground.data }, { on := 12, ground := Ground.chain }], guard := none }, { dst := some 58, op := Op.load 53 (Operand.tmp 3), type := 53, pos := "law.go:32", after := #[{ on := 16, ground := Ground.guard }], guard := some (16, true) }, { dst := some 59, op := Op.call { callee := Callee.value (Operand.func 43), args := #[Operand.const (Value.int IntKind.u64 2)], argTypes := #[51] }, type := 53, pos := "law.go:32", after := #[{ on := 16, ground := Ground.chain }, { on := 16, ground := Ground.guard }], guard := some (16, true) }, { dst := some 60, op := Op.binOp BinOp.eql 53 (Operand.tmp 58) (Operand.tmp 59) 53, type := 4, pos := "law.go:32", after := #[{ on := 17, ground := Ground.data }, { on := 18, ground := Ground.data }, { on := 16, ground := Ground.guard }], guard := some (16, true) }, { dst := some 61, op := Op.pick (Operand.tmp 57) (Operand.tmp 60) (Operand.const (Value.bool false)), type := 4, pos := "law.go:32", after := #[{ on := 16, ground := Ground.data }, { on := 19, ground := Ground.data }], guard := none }, { dst := some 62, op := Op.move (Operand.tmp 61), type := 4, pos := "law.go:32", after := #[{ on := 20, ground := Ground.data }, { on := 18, ground := Ground.chain }], guard := none }, { dst := some 63, op := Op.load 53 (Operand.tmp 7), type := 53, pos := "law.go:32", after := #[{ on := 21, ground := Ground.guard }], guard := some (21, true) }, { dst := some 64, op := Op.call { callee := Callee.value (Operand.func 43), args := #[Operand.const (Value.int IntKind.u64 3)], argTypes := #[51] }, type := 53, pos := "law.go:32", after := #[{ on := 21, ground := Ground.chain }, { on := 21, ground := Ground.guard }], guard := some (21, true) }, { dst := some 65, op := Op.binOp BinOp.eql 53 (Operand.tmp 63) (Operand.tmp 64) 53, type := 4, pos := "law.go:32", after := #[{ on := 22, ground := Ground.data }, { on := 23, ground := Ground.data }, { on := 21, ground := Ground.guard }], guard := some (21, true) }, { dst := some 66, op := Op.pick (Operand.tmp 62) (Operand.tmp 65) (Operand.const (Value.bool false)), type := 4, pos := "law.go:32", after := #[{ on := 21, ground := Ground.data }, { on := 24, ground := Ground.data }], guard := none }, { dst := some 67, op := Op.move (Operand.tmp 66), type := 4, pos := "law.go:32", after := #[{ on := 25, ground := Ground.data }, { on := 23, ground := Ground.chain }], guard := none }, { dst := some 68, op := Op.move (Operand.tmp 5), type := 22, pos := "law.go:32", after := #[{ on := 26, ground := Ground.guard }], guard := some (26, true) }, { dst := some 69, op := Op.call { callee := Callee.value (Operand.func 43), args := #[Operand.const (Value.int IntKind.u64 2)], argTypes := #[51] }, type := 53, pos := "law.go:32", after := #[{ on := 26, ground := Ground.chain }, { on := 26, ground := Ground.guard }], guard := some (26, true) }, { dst := some 70, op := Op.call { callee := Callee.value (Operand.func 43), args := #[Operand.const (Value.int IntKind.u64 3)], argTypes := #[51] }, type := 53, pos := "law.go:32", after := #[{ on := 28, ground := Ground.chain }, { on := 26, ground := Ground.guard }], guard := some (26, true) }, { dst := some 71, op := Op.buildSlice 22 2 #[(0, Operand.tmp 69), (1, Operand.tmp 70)], type := 22, pos := "law.go:32", after := #[{ on := 28, ground := Ground.data }, { on := 29, ground := Ground.data }, { on := 26, ground := Ground.guard }], guard := some (26, true) }, { dst := some 72, op := Op.call { callee := Callee.value (Operand.func 28), args := #[Operand.tmp 68, Operand.tmp 71], argTypes := #[22, 22] }, type := 4, pos := "law.go:32", after := #[{ on := 27, ground := Ground.data }, { on := 30, ground := Ground.data }, { on := 29, ground := Ground.chain }, { on := 26, ground := Ground.guard }], guard := some (26, true) }, { dst := some 73, op := Op.pick (Operand.tmp 67) (Operand.tmp 72) (Operand.const (Value.bool false)), type := 4, pos := "law.go:32", after := #[{ on := 26, ground := Ground.data }, { on := 31, ground := Ground.data }], guard := none }, { dst := some 0, op := Op.assign (Operand.tmp 73), type := 4, pos := "law.go:32", after := #[{ on := 32, ground := Ground.data }, { on := 31, ground := Ground.chain }, { on := 0, ground := Ground.phase }, { on := 1, ground := Ground.phase }, { on := 2, ground := Ground.phase }, { on := 3, ground := Ground.phase }, { on := 4, ground := Ground.phase }, { on := 5, ground := Ground.phase }, { on := 6, ground := Ground.phase }, { on := 7, ground := Ground.phase }, { on := 8, ground := Ground.phase }, { on := 9, ground := Ground.phase }, { on := 10, ground := Ground.phase }, { on := 11, ground := Ground.phase }, { on := 12, ground := Ground.phase }, { on := 13, ground := Ground.phase }, { on := 14, ground := Ground.phase }, { on := 15, ground := Ground.phase }, { on := 16, ground := Ground.phase }, { on := 17, ground := Ground.phase }, { on := 18, ground := Ground.phase }, { on := 19, ground := Ground.phase }, { on := 20, ground := Ground.phase }, { on := 21, ground := Ground.phase }, { on := 22, ground := Ground.phase }, { on := 23, ground := Ground.phase }, { on := 24, ground := Ground.phase }, { on := 25, ground := Ground.phase }, { on := 26, ground := Ground.phase }, { on := 27, ground := Ground.phase }, { on := 28, ground := Ground.phase }, { on := 29, ground := Ground.phase }, { on := 30, ground := Ground.phase }, { on := 31, ground := Ground.phase }, { on := 32, ground := Ground.phase }], guard := none }] true).wp Try.prog Q a W := by
  have hmix := mixed
  refine wp_region_inv hmix (Inv := WK13V w0 va bp bz ro rc q11 q12 q13 q14 q15 q16 q17 q18 q19 q20 q21 q22 q23 q24 q25 q26 q27 q28 q29 q30 q31 q32 q33 q34 q35 q36 q37 q38 q39 q40) (by kernel_rfl) ?h0 ?hstep ?hdone
  case h0 =>
    subst ha
    exact ⟨.bool false, undef, undef, undef, undef, undef, undef, undef, undef, undef, undef, undef, undef, undef, undef, undef, undef, undef, undef, undef, undef, undef, undef, undef, undef, undef, undef, undef, undef, undef, undef, undef, undef, undef, 0, rfl, ⟨hlow.drew, hkp.drew, hkz.drew, hks.drew, nofun, nofun, nofun, nofun, nofun, nofun, nofun, nofun, nofun, nofun, nofun, nofun, nofun, nofun, nofun, nofun, nofun, nofun, nofun, nofun, nofun, nofun, nofun, nofun, nofun, nofun, nofun, nofun, nofun, nofun, nofun, nofun, nofun, nofun⟩⟩
  case hdone =>
    rintro L a X ⟨t0, t41, t42, t43, t44, t45, t46, t47, t48, t49, t50, t51, t52, t53, t54, t55, t56, t57, t58, t59, t60, t61, t62, t63, t64, t65, t66, t67, t68, t69, t70, t71, t72, t73, bq, rfl, h⟩ hall
    exact hQ L t0 t41 t42 t43 t44 t45 t46 t47 t48 t49 t50 t51 t52 t53 t54 t55 t56 t57 t58 t59 t60 t61 t62 t63 t64 t65 t66 t67 t68 t69 t70 t71 t72 t73 bq X hall h
  case hstep =>
    clear hQ ha
    rintro L a X i op ⟨t0, t41, t42, t43, t44, t45, t46, t47, t48, t49, t50, t51, t52, t53, t54, t55, t56, t57, t58, t59, t60, t61, t62, t63, t64, t65, t66, t67, t68, t69, t70, t71, t72, t73, bq, rfl, h⟩ hL ho hp
    have hi : i < 34 := (Array.getElem?_eq_some_iff.1 ho).1
    match i, hi, hL, ho, hp with
    | 0, _, hL, ho, hp =>
      simp only [List.getElem?_toArray, List.getElem?_cons_zero, Option.some.injEq] at ho
      subst ho
      rw [if_pos (by rfl)]
      go_simp
      exact ⟨_, _, _, _, _, _, _, _, _, _, _, _, _, _, _, _, _, _, _, _, _, _, _, _, _, _, _, _, _, _, _, _, _, _, bq, rfl, ⟨h.low, h.kp, h.kz, h.ks, fun _ => rfl, h.h1, h.h2, h.h3, h.h4, h.h5, h.h6, h.h7, h.h8, h.h9, h.h10, h.h11, h.h12, h.h13, h.h14, h.h15, h.h16, h.h17, h.h18, h.h19, h.h20, h.h21, h.h22, h.h23, h.h24, h.h25, h.h26, h.h27, h.h28, h.h29, h.h30, h.h31, h.h32, h.h33⟩⟩
    | 1, _, hL, ho, hp =>
      simp only [List.getElem?_toArray, List.getElem?_cons_zero, List.getElem?_cons_succ, Option.some.injEq] at ho
      subst ho
      have p0 : L 0 = true := hp ⟨0, .data⟩ (by simp) rfl
      obtain rfl := h.h0 p0
      rw [if_pos (by rfl)]
      go_simp
      exact ⟨_, _, _, _, _, _, _, _, _, _, _, _, _, _, _, _, _, _, _, _, _, _, _, _, _, _, _, _, _, _, _, _, _, _, bq, rfl, ⟨h.low, h.kp, h.kz, h.ks, h.h0, fun _ => rfl, h.h2, h.h3, h.h4, h.h5, h.h6, h.h7, h.h8, h.h9, h.h10, h.h11, h.h12, h.h13, h.h14, h.h15, h.h16, h.h17, h.h18, h.h19, h.h20, h.h21, h.h22, h.h23, h.h24, h.h25, h.h26, h.h27, h.h28, h.h29, h.h30, h.h31, h.h32, h.h33⟩⟩
    | 2, _, hL, ho, hp =>
      simp only [List.getElem?_toArray, List.getElem?_cons_zero, List.getElem?_cons_succ, Option.some.injEq] at ho
      subst ho
      have p1 : L 1 = true := hp ⟨1, .guard⟩ (by simp) rfl
      obtain rfl := h.h1 p1
      rw [if_pos (by rfl)]
      go_simp
      exact ⟨_, _, _, _, _, _, _, _, _, _, _, _, _, _, _, _, _, _, _, _, _, _, _, _, _, _, _, _, _, _, _, _, _, _, bq, rfl, ⟨h.low, h.kp, h.kz, h.ks, h.h0, h.h1, fun _ => rfl, h.h3, h.h4, h.h5, h.h6, h.h7, h.h8, h.h9, h.h10, h.h11, h.h12, h.h13, h.h14, h.h15, h.h16, h.h17, h.h18, h.h19, h.h20, h.h21, h.h22, h.h23, h.h24, h.h25, h.h26, h.h27, h.h28, h.h29, h.h30, h.h31, h.h32, h.h33⟩⟩
    | 3, _, hL, ho, hp =>
      simp only [List.getElem?_toArray, List.getElem?_cons_zero, List.getElem?_cons_succ, Option.some.injEq] at ho
      subst ho
      have p1 : L 1 = true := hp ⟨1, .data⟩ (by simp) rfl
      obtain rfl := h.h1 p1
      have p2 : L 2 = true := hp ⟨2, .data⟩ (by simp) rfl
      obtain rfl := h.h2 p2
      rw [if_pos (by rfl)]
      go_simp
      exact ⟨_, _, _, _, _, _, _, _, _, _, _, _, _, _, _, _, _, _, _, _, _, _, _, _, _, _, _, _, _, _, _, _, _, _, bq, rfl, ⟨h.low, h.kp, h.kz, h.ks, h.h0, h.h1, h.h2, fun _ => rfl, h.h4, h.h5, h.h6, h.h7, h.h8, h.h9, h.h10, h.h11, h.h12, h.h13, h.h14, h.h15, h.h16, h.h17, h.h18, h.h19, h.h20, h.h21, h.h22, h.h23, h.h24, h.h25, h.h26, h.h27, h.h28, h.h29, h.h30, h.h31, h.h32, h.h33⟩⟩
    | 4, _, hL, ho, hp =>
      simp only [List.getElem?_toArray, List.getElem?_cons_zero, List.getElem?_cons_succ, Option.some.injEq] at ho
      subst ho
      have p3 : L 3 = true := hp ⟨3, .data⟩ (by simp) rfl
      obtain rfl := h.h3 p3
      rw [if_pos (by rfl)]
      go_simp
      exact ⟨_, _, _, _, _, _, _, _, _, _, _, _, _, _, _, _, _, _, _, _, _, _, _, _, _, _, _, _, _, _, _, _, _, _, bq, rfl, ⟨h.low, h.kp, h.kz, h.ks, h.h0, h.h1, h.h2, h.h3, fun _ => rfl, h.h5, h.h6, h.h7, h.h8, h.h9, h.h10, h.h11, h.h12, h.h13, h.h14, h.h15, h.h16, h.h17, h.h18, h.h19, h.h20, h.h21, h.h22, h.h23, h.h24, h.h25, h.h26, h.h27, h.h28, h.h29, h.h30, h.h31, h.h32, h.h33⟩⟩
    | 5, _, hL, ho, hp =>
      simp only [List.getElem?_toArray, List.getElem?_cons_zero, List.getElem?_cons_succ, Option.some.injEq] at ho
      subst ho
      have p4 : L 4 = true := hp ⟨4, .guard⟩ (by simp) rfl
      obtain rfl := h.h4 p4
      rw [if_pos (by rfl)]
      go_simp
      exact ⟨_, _, _, _, _, _, _, _, _, _, _, _, _, _, _, _, _, _, _, _, _, _, _, _, _, _, _, _, _, _, _, _, _, _, bq, rfl, ⟨h.low, h.kp, h.kz, h.ks, h.h0, h.h1, h.h2, h.h3, h.h4, fun _ => rfl, h.h6, h.h7, h.h8, h.h9, h.h10, h.h11, h.h12, h.h13, h.h14, h.h15, h.h16, h.h17, h.h18, h.h19, h.h20, h.h21, h.h22, h.h23, h.h24, h.h25, h.h26, h.h27, h.h28, h.h29, h.h30, h.h31, h.h32, h.h33⟩⟩
    | 6, _, hL, ho, hp =>
      simp only [List.getElem?_toArray, List.getElem?_cons_zero, List.getElem?_cons_succ, Option.some.injEq] at ho
      subst ho
      have p4 : L 4 = true := hp ⟨4, .guard⟩ (by simp) rfl
      obtain rfl := h.h4 p4
      have p5 : L 5 = true := hp ⟨5, .data⟩ (by simp) rfl
      obtain rfl := h.h5 p5
      rw [if_pos (by rfl)]
      go_simp
      exact ⟨_, _, _, _, _, _, _, _, _, _, _, _, _, _, _, _, _, _, _, _, _, _, _, _, _, _, _, _, _, _, _, _, _, _, bq, rfl, ⟨h.low, h.kp, h.kz, h.ks, h.h0, h.h1, h.h2, h.h3, h.h4, h.h5, fun _ => rfl, h.h7, h.h8, h.h9, h.h10, h.h11, h.h12, h.h13, h.h14, h.h15, h.h16, h.h17, h.h18, h.h19, h.h20, h.h21, h.h22, h.h23, h.h24, h.h25, h.h26, h.h27, h.h28, h.h29, h.h30, h.h31, h.h32, h.h33⟩⟩
    | 7, _, hL, ho, hp =>
      simp only [List.getElem?_toArray, List.getElem?_cons_zero, List.getElem?_cons_succ, Option.some.injEq] at ho
      subst ho
      have p4 : L 4 = true := hp ⟨4, .data⟩ (by simp) rfl
      obtain rfl := h.h4 p4
      have p6 : L 6 = true := hp ⟨6, .data⟩ (by simp) rfl
      obtain rfl := h.h6 p6
      rw [if_pos (by rfl)]
      go_simp
      exact ⟨_, _, _, _, _, _, _, _, _, _, _, _, _, _, _, _, _, _, _, _, _, _, _, _, _, _, _, _, _, _, _, _, _, _, bq, rfl, ⟨h.low, h.kp, h.kz, h.ks, h.h0, h.h1, h.h2, h.h3, h.h4, h.h5, h.h6, fun _ => rfl, h.h8, h.h9, h.h10, h.h11, h.h12, h.h13, h.h14, h.h15, h.h16, h.h17, h.h18, h.h19, h.h20, h.h21, h.h22, h.h23, h.h24, h.h25, h.h26, h.h27, h.h28, h.h29, h.h30, h.h31, h.h32, h.h33⟩⟩
    | 8, _, hL, ho, hp =>
      simp only [List.getElem?_toArray, List.getElem?_cons_zero, List.getElem?_cons_succ, Option.some.injEq] at ho
      subst ho
      have p7 : L 7 = true := hp ⟨7, .data⟩ (by simp) rfl
      obtain rfl := h.h7 p7
      rw [if_pos (by rfl)]
      go_simp
      exact ⟨_, _, _, _, _, _, _, _, _, _, _, _, _, _, _, _, _, _, _, _, _, _, _, _, _, _, _, _, _, _, _, _, _, _, bq, rfl, ⟨h.low, h.kp, h.kz, h.ks, h.h0, h.h1, h.h2, h.h3, h.h4, h.h5, h.h6, h.h7, fun _ => rfl, h.h9, h.h10, h.h11, h.h12, h.h13, h.h14, h.h15, h.h16, h.h17, h.h18, h.h19, h.h20, h.h21, h.h22, h.h23, h.h24, h.h25, h.h26, h.h27, h.h28, h.h29, h.h30, h.h31, h.h32, h.h33⟩⟩
    | 9, _, hL, ho, hp =>
      simp only [List.getElem?_toArray, List.getElem?_cons_zero, List.getElem?_cons_succ, Option.some.injEq] at ho
      subst ho
      have p8 : L 8 = true := hp ⟨8, .guard⟩ (by simp) rfl
      obtain rfl := h.h8 p8
      rw [if_pos (by rfl)]
      go_simp
      exact ⟨_, _, _, _, _, _, _, _, _, _, _, _, _, _, _, _, _, _, _, _, _, _, _, _, _, _, _, _, _, _, _, _, _, _, bq, rfl, ⟨h.low, h.kp, h.kz, h.ks, h.h0, h.h1, h.h2, h.h3, h.h4, h.h5, h.h6, h.h7, h.h8, fun _ => rfl, h.h10, h.h11, h.h12, h.h13, h.h14, h.h15, h.h16, h.h17, h.h18, h.h19, h.h20, h.h21, h.h22, h.h23, h.h24, h.h25, h.h26, h.h27, h.h28, h.h29, h.h30, h.h31, h.h32, h.h33⟩⟩
    | 10, _, hL, ho, hp =>
      simp only [List.getElem?_toArray, List.getElem?_cons_zero, List.getElem?_cons_succ, Option.some.injEq] at ho
      subst ho
      have p8 : L 8 = true := hp ⟨8, .guard⟩ (by simp) rfl
      obtain rfl := h.h8 p8
      have p9 : L 9 = true := hp ⟨9, .data⟩ (by simp) rfl
      obtain rfl := h.h9 p9
      rw [if_pos (by rfl)]
      go_simp
      exact ⟨_, _, _, _, _, _, _, _, _, _, _, _, _, _, _, _, _, _, _, _, _, _, _, _, _, _, _, _, _, _, _, _, _, _, bq, rfl, ⟨h.low, h.kp, h.kz, h.ks, h.h0, h.h1, h.h2, h.h3, h.h4, h.h5, h.h6, h.h7, h.h8, h.h9, fun _ => rfl, h.h11, h.h12, h.h13, h.h14, h.h15, h.h16, h.h17, h.h18, h.h19, h.h20, h.h21, h.h22, h.h23, h.h24, h.h25, h.h26, h.h27, h.h28, h.h29, h.h30, h.h31, h.h32, h.h33⟩⟩
    | 11, _, hL, ho, hp =>
      simp only [List.getElem?_toArray, List.getElem?_cons_zero, List.getElem?_cons_succ, Option.some.injEq] at ho
      subst ho
      have p8 : L 8 = true := hp ⟨8, .data⟩ (by simp) rfl
      obtain rfl := h.h8 p8
      have p10 : L 10 = true := hp ⟨10, .data⟩ (by simp) rfl
      obtain rfl := h.h10 p10
      rw [if_pos (by rfl)]
      go_simp
      exact ⟨_, _, _, _, _, _, _, _, _, _, _, _, _, _, _, _, _, _, _, _, _, _, _, _, _, _, _, _, _, _, _, _, _, _, bq, rfl, ⟨h.low, h.kp, h.kz, h.ks, h.h0, h.h1, h.h2, h.h3, h.h4, h.h5, h.h6, h.h7, h.h8, h.h9, h.h10, fun _ => rfl, h.h12, h.h13, h.h14, h.h15, h.h16, h.h17, h.h18, h.h19, h.h20, h.h21, h.h22, h.h23, h.h24, h.h25, h.h26, h.h27, h.h28, h.h29, h.h30, h.h31, h.h32, h.h33⟩⟩
    | 12, _, hL, ho, hp =>
      simp only [List.getElem?_toArray, List.getElem?_cons_zero, List.getElem?_cons_succ, Option.some.injEq] at ho
      subst ho
      have p11 : L 11 = true := hp ⟨11, .data⟩ (by simp) rfl
      obtain rfl := h.h11 p11
      rw [if_pos (by rfl)]
      go_simp
      exact ⟨_, _, _, _, _, _, _, _, _, _, _, _, _, _, _, _, _, _, _, _, _, _, _, _, _, _, _, _, _, _, _, _, _, _, bq, rfl, ⟨h.low, h.kp, h.kz, h.ks, h.h0, h.h1, h.h2, h.h3, h.h4, h.h5, h.h6, h.h7, h.h8, h.h9, h.h10, h.h11, fun _ => rfl, h.h13, h.h14, h.h15, h.h16, h.h17, h.h18, h.h19, h.h20, h.h21, h.h22, h.h23, h.h24, h.h25, h.h26, h.h27, h.h28, h.h29, h.h30, h.h31, h.h32, h.h33⟩⟩
    | 13, _, hL, ho, hp =>
      simp only [List.getElem?_toArray, List.getElem?_cons_zero, List.getElem?_cons_succ, Option.some.injEq] at ho
      subst ho
      have p12 : L 12 = true := hp ⟨12, .guard⟩ (by simp) rfl
      obtain rfl := h.h12 p12
      rw [if_pos (by rfl)]
      go_simp
      exact ⟨_, _, _, _, _, _, _, _, _, _, _, _, _, _, _, _, _, _, _, _, _, _, _, _, _, _, _, _, _, _, _, _, _, _, bq, rfl, ⟨h.low, h.kp, h.kz, h.ks, h.h0, h.h1, h.h2, h.h3, h.h4, h.h5, h.h6, h.h7, h.h8, h.h9, h.h10, h.h11, h.h12, fun _ => rfl, h.h14, h.h15, h.h16, h.h17, h.h18, h.h19, h.h20, h.h21, h.h22, h.h23, h.h24, h.h25, h.h26, h.h27, h.h28, h.h29, h.h30, h.h31, h.h32, h.h33⟩⟩
    | 14, _, hL, ho, hp =>
      simp only [List.getElem?_toArray, List.getElem?_cons_zero, List.getElem?_cons_succ, Option.some.injEq] at ho
      subst ho
      have p12 : L 12 = true := hp ⟨12, .guard⟩ (by simp) rfl
      obtain rfl := h.h12 p12
      have p13 : L 13 = true := hp ⟨13, .data⟩ (by simp) rfl
      obtain rfl := h.h13 p13
      rw [if_pos (by rfl)]
      go_simp
      exact ⟨_, _, _, _, _, _, _, _, _, _, _, _, _, _, _, _, _, _, _, _, _, _, _, _, _, _, _, _, _, _, _, _, _, _, bq, rfl, ⟨h.low, h.kp, h.kz, h.ks, h.h0, h.h1, h.h2, h.h3, h.h4, h.h5, h.h6, h.h7, h.h8, h.h9, h.h10, h.h11, h.h12, h.h13, fun _ => rfl, h.h15, h.h16, h.h17, h.h18, h.h19, h.h20, h.h21, h.h22, h.h23, h.h24, h.h25, h.h26, h.h27, h.h28, h.h29, h.h30, h.h31, h.h32, h.h33⟩⟩
    | 15, _, hL, ho, hp =>
      simp only [List.getElem?_toArray, List.getElem?_cons_zero, List.getElem?_cons_succ, Option.some.injEq] at ho
      subst ho
      have p12 : L 12 = true := hp ⟨12, .data⟩ (by simp) rfl
      obtain rfl := h.h12 p12
      have p14 : L 14 = true := hp ⟨14, .data⟩ (by simp) rfl
      obtain rfl := h.h14 p14
      rw [if_pos (by rfl)]
      go_simp
      exact ⟨_, _, _, _, _, _, _, _, _, _, _, _, _, _, _, _, _, _, _, _, _, _, _, _, _, _, _, _, _, _, _, _, _, _, bq, rfl, ⟨h.low, h.kp, h.kz, h.ks, h.h0, h.h1, h.h2, h.h3, h.h4, h.h5, h.h6, h.h7, h.h8, h.h9, h.h10, h.h11, h.h12, h.h13, h.h14, fun _ => rfl, h.h16, h.h17, h.h18, h.h19, h.h20, h.h21, h.h22, h.h23, h.h24, h.h25, h.h26, h.h27, h.h28, h.h29, h.h30, h.h31, h.h32, h.h33⟩⟩
    | 16, _, hL, ho, hp =>
      simp only [List.getElem?_toArray, List.getElem?_cons_zero, List.getElem?_cons_succ, Option.some.injEq] at ho
      subst ho
      have p15 : L 15 = true := hp ⟨15, .data⟩ (by simp) rfl
      obtain rfl := h.h15 p15
      rw [if_pos (by rfl)]
      go_simp
      exact ⟨_, _, _, _, _, _, _, _, _, _, _, _, _, _, _, _, _, _, _, _, _, _, _, _, _, _, _, _, _, _, _, _, _, _, bq, rfl, ⟨h.low, h.kp, h.kz, h.ks, h.h0, h.h1, h.h2, h.h3, h.h4, h.h5, h.h6, h.h7, h.h8, h.h9, h.h10, h.h11, h.h12, h.h13, h.h14, h.h15, fun _ => rfl, h.h17, h.h18, h.h19, h.h20, h.h21, h.h22, h.h23, h.h24, h.h25, h.h26, h.h27, h.h28, h.h29, h.h30, h.h31, h.h32, h.h33⟩⟩
    | 17, _, hL, ho, hp =>
      simp only [List.getElem?_toArray, List.getElem?_cons_zero, List.getElem?_cons_succ, Option.some.injEq] at ho
      subst ho
      have p16 : L 16 = true := hp ⟨16, .guard⟩ (by simp) rfl
      obtain rfl := h.h16 p16
      rw [if_pos (by rfl)]
      have ckp0 := h.kp.cell 0
      have ckp1 := h.kp.cell 1
      have lkp := h.kp.lt
      simp only [List.getElem?_toArray, List.getElem?_cons_zero, List.getElem?_cons_succ] at ckp0 ckp1
      go_simp
      exact ⟨_, _, _, _, _, _, _, _, _, _, _, _, _, _, _, _, _, _, _, _, _, _, _, _, _, _, _, _, _, _, _, _, _, _, bq, rfl, ⟨h.low, h.kp, h.kz, h.ks, h.h0, h.h1, h.h2, h.h3, h.h4, h.h5, h.h6, h.h7, h.h8, h.h9, h.h10, h.h11, h.h12, h.h13, h.h14, h.h15, h.h16, fun _ => rfl, h.h18, h.h19, h.h20, h.h21, h.h22, h.h23, h.h24, h.h25, h.h26, h.h27, h.h28, h.h29, h.h30, h.h31, h.h32, h.h33⟩⟩
    | 18, _, hL, ho, hp =>
      simp only [List.getElem?_toArray, List.getElem?_cons_zero, List.getElem?_cons_succ, Option.some.injEq] at ho
      subst ho
      have p16 : L 16 = true := hp ⟨16, .guard⟩ (by simp) rfl
      obtain rfl := h.h16 p16
      rw [if_pos (by rfl)]
      go_simp
      go_at_call 43
      (with_reducible refine (pair13_any 2 _).mono ?_)
      rintro e X2 ⟨rfl, g⟩
      have gb := g.below
      have hlow2 := below_later h.low gb
      exact ⟨_, _, _, _, _, _, _, _, _, _, _, _, _, _, _, _, _, _, _, _, _, _, _, _, _, _, _, _, _, _, _, _, _, _, bq, rfl, ⟨hlow2, h.kp.later gb, h.kz.later gb, h.ks.later gb, h.h0, h.h1, h.h2, h.h3, h.h4, h.h5, h.h6, h.h7, h.h8, h.h9, h.h10, h.h11, h.h12, h.h13, h.h14, h.h15, h.h16, h.h17, fun _ => rfl, h.h19, h.h20, h.h21, h.h22, h.h23, h.h24, h.h25, h.h26, h.h27, h.h28, h.h29, fun e => ⟨(h.h30 e).1, (h.h30 e).2.later gb⟩, h.h31, h.h32, h.h33⟩⟩
    | 19, _, hL, ho, hp =>
      simp only [List.getElem?_toArray, List.getElem?_cons_zero, List.getElem?_cons_succ, Option.some.injEq] at ho
      subst ho
      have p16 : L 16 = true := hp ⟨16, .guard⟩ (by simp) rfl
      obtain rfl := h.h16 p16
      have p17 : L 17 = true := hp ⟨17, .data⟩ (by simp) rfl
      obtain rfl := h.h17 p17
      have p18 : L 18 = true := hp ⟨18, .data⟩ (by simp) rfl
      obtain rfl := h.h18 p18
      rw [if_pos (by rfl)]
      go_simp
      exact ⟨_, _, _, _, _, _, _, _, _, _, _, _, _, _, _, _, _, _, _, _, _, _, _, _, _, _, _, _, _, _, _, _, _, _, bq, rfl, ⟨h.low, h.kp, h.kz, h.ks, h.h0, h.h1, h.h2, h.h3, h.h4, h.h5, h.h6, h.h7, h.h8, h.h9, h.h10, h.h11, h.h12, h.h13, h.h14, h.h15, h.h16, h.h17, h.h18, fun _ => rfl, h.h20, h.h21, h.h22, h.h23, h.h24, h.h25, h.h26, h.h27, h.h28, h.h29, h.h30, h.h31, h.h32, h.h33⟩⟩
    | 20, _, hL, ho, hp =>
      simp only [List.getElem?_toArray, List.getElem?_cons_zero, List.getElem?_cons_succ, Option.some.injEq] at ho
      subst ho
      have p16 : L 16 = true := hp ⟨16, .data⟩ (by simp) rfl
      obtain rfl := h.h16 p16
      have p19 : L 19 = true := hp ⟨19, .data⟩ (by simp) rfl
      obtain rfl := h.h19 p19
      rw [if_pos (by rfl)]
      go_simp
      exact ⟨_, _, _, _, _, _, _, _, _, _, _, _, _, _, _, _, _, _, _, _, _, _, _, _, _, _, _, _, _, _, _, _, _, _, bq, rfl, ⟨h.low, h.kp, h.kz, h.ks, h.h0, h.h1, h.h2, h.h3, h.h4, h.h5, h.h6, h.h7, h.h8, h.h9, h.h10, h.h11, h.h12, h.h13, h.h14, h.h15, h.h16, h.h17, h.h18, h.h19, fun _ => rfl, h.h21, h.h22, h.h23, h.h24, h.h25, h.h26, h.h27, h.h28, h.h29, h.h30, h.h31, h.h32, h.h33⟩⟩
    | 21, _, hL, ho, hp =>
      simp only [List.getElem?_toArray, List.getElem?_cons_zero, List.getElem?_cons_succ, Option.some.injEq] at ho
      subst ho
      have p20 : L 20 = true := hp ⟨20, .data⟩ (by simp) rfl
      obtain rfl := h.h20 p20
      rw [if_pos (by rfl)]
      go_simp
      exact ⟨_, _, _, _, _, _, _, _, _, _, _, _, _, _, _, _, _, _, _, _, _, _, _, _, _, _, _, _, _, _, _, _, _, _, bq, rfl, ⟨h.low, h.kp, h.kz, h.ks, h.h0, h.h1, h.h2, h.h3, h.h4, h.h5, h.h6, h.h7, h.h8, h.h9, h.h10, h.h11, h.h12, h.h13, h.h14, h.h15, h.h16, h.h17, h.h18, h.h19, h.h20, fun _ => rfl, h.h22, h.h23, h.h24, h.h25, h.h26, h.h27, h.h28, h.h29, h.h30, h.h31, h.h32, h.h33⟩⟩
    | 22, _, hL, ho, hp =>
      simp only [List.getElem?_toArray, List.getElem?_cons_zero, List.getElem?_cons_succ, Option.some.injEq] at ho
      subst ho
      have p21 : L 21 = true := hp ⟨21, .guard⟩ (by simp) rfl
      obtain rfl := h.h21 p21
      rw [if_pos (by rfl)]
      have ckz0 := h.kz.cell 0
      have ckz1 := h.kz.cell 1
      have lkz := h.kz.lt
      simp only [List.getElem?_toArray, List.getElem?_cons_zero, List.getElem?_cons_succ] at ckz0 ckz1
      go_simp
      exact ⟨_, _, _, _, _, _, _, _, _, _, _, _, _, _, _, _, _, _, _, _, _, _, _, _, _, _, _, _, _, _, _, _, _, _, bq, rfl, ⟨h.low, h.kp, h.kz, h.ks, h.h0, h.h1, h.h2, h.h3, h.h4, h.h5, h.h6, h.h7, h.h8, h.h9, h.h10, h.h11, h.h12, h.h13, h.h14, h.h15, h.h16, h.h17, h.h18, h.h19, h.h20, h.h21, fun _ => rfl, h.h23, h.h24, h.h25, h.h26, h.h27, h.h28, h.h29, h.h30, h.h31, h.h32, h.h33⟩⟩
    | 23, _, hL, ho, hp =>
      simp only [List.getElem?_toArray, List.getElem?_cons_zero, List.getElem?_cons_succ, Option.some.injEq] at ho
      subst ho
      have p21 : L 21 = true := hp ⟨21, .guard⟩ (by simp) rfl
      obtain rfl := h.h21 p21
      rw [if_pos (by rfl)]
      go_simp
      go_at_call 43
      (with_reducible refine (pair13_any 3 _).mono ?_)
      rintro e X2 ⟨rfl, g⟩
      have gb := g.below
      have hlow2 := below_later h.low gb
      exact ⟨_, _, _, _, _, _, _, _, _, _, _, _, _, _, _, _, _, _, _, _, _, _, _, _, _, _, _, _, _, _, _, _, _, _, bq, rfl, ⟨hlow2, h.kp.later gb, h.kz.later gb, h.ks.later gb, h.h0, h.h1, h.h2, h.h3, h.h4, h.h5, h.h6, h.h7, h.h8, h.h9, h.h10, h.h11, h.h12, h.h13, h.h14, h.h15, h.h16, h.h17, h.h18, h.h19, h.h20, h.h21, h.h22, fun _ => rfl, h.h24, h.h25, h.h26, h.h27, h.h28, h.h29, fun e => ⟨(h.h30 e).1, (h.h30 e).2.later gb⟩, h.h31, h.h32, h.h33⟩⟩
    | 24, _, hL, ho, hp =>
      simp only [List.getElem?_toArray, List.getElem?_cons_zero, List.getElem?_cons_succ, Option.some.injEq] at ho
      subst ho
      have p21 : L 21 = true := hp ⟨21, .guard⟩ (by simp) rfl
      obtain rfl := h.h21 p21
      have p22 : L 22 = true := hp ⟨22, .data⟩ (by simp) rfl
      obtain rfl := h.h22 p22
      have p23 : L 23 = true := hp ⟨23, .data⟩ (by simp) rfl
      obtain rfl := h.h23 p23
      rw [if_pos (by rfl)]
      go_simp
      exact ⟨_, _, _, _, _, _, _, _, _, _, _, _, _, _, _, _, _, _, _, _, _, _, _, _, _, _, _, _, _, _, _, _, _, _, bq, rfl, ⟨h.low, h.kp, h.kz, h.ks, h.h0, h.h1, h.h2, h.h3, h.h4, h.h5, h.h6, h.h7, h.h8, h.h9, h.h10, h.h11, h.h12, h.h13, h.h14, h.h15, h.h16, h.h17, h.h18, h.h19, h.h20, h.h21, h.h22, h.h23, fun _ => rfl, h.h25, h.h26, h.h27, h.h28, h.h29, h.h30, h.h31, h.h32, h.h33⟩⟩
    | 25, _, hL, ho, hp =>
      simp only [List.getElem?_toArray, List.getElem?_cons_zero, List.getElem?_cons_succ, Option.some.injEq] at ho
      subst ho
      have p21 : L 21 = true := hp ⟨21, .data⟩ (by simp) rfl
      obtain rfl := h.h21 p21
      have p24 : L 24 = true := hp ⟨24, .data⟩ (by simp) rfl
      obtain rfl := h.h24 p24
      rw [if_pos (by rfl)]
      go_simp
      exact ⟨_, _, _, _, _, _, _, _, _, _, _, _, _, _, _, _, _, _, _, _, _, _, _, _, _, _, _, _, _, _, _, _, _, _, bq, rfl, ⟨h.low, h.kp, h.kz, h.ks, h.h0, h.h1, h.h2, h.h3, h.h4, h.h5, h.h6, h.h7, h.h8, h.h9, h.h10, h.h11, h.h12, h.h13, h.h14, h.h15, h.h16, h.h17, h.h18, h.h19, h.h20, h.h21, h.h22, h.h23, h.h24, fun _ => rfl, h.h26, h.h27, h.h28, h.h29, h.h30, h.h31, h.h32, h.h33⟩⟩
    | 26, _, hL, ho, hp =>
      simp only [List.getElem?_toArray, List.getElem?_cons_zero, List.getElem?_cons_succ, Option.some.injEq] at ho
      subst ho
      have p25 : L 25 = true := hp ⟨25, .data⟩ (by simp) rfl
      obtain rfl := h.h25 p25
      rw [if_pos (by rfl)]
      go_simp
      exact ⟨_, _, _, _, _, _, _, _, _, _, _, _, _, _, _, _, _, _, _, _, _, _, _, _, _, _, _, _, _, _, _, _, _, _, bq, rfl, ⟨h.low, h.kp, h.kz, h.ks, h.h0, h.h1, h.h2, h.h3, h.h4, h.h5, h.h6, h.h7, h.h8, h.h9, h.h10, h.h11, h.h12, h.h13, h.h14, h.h15, h.h16, h.h17, h.h18, h.h19, h.h20, h.h21, h.h22, h.h23, h.h24, h.h25, fun _ => rfl, h.h27, h.h28, h.h29, h.h30, h.h31, h.h32, h.h33⟩⟩
    | 27, _, hL, ho, hp =>
      simp only [List.getElem?_toArray, List.getElem?_cons_zero, List.getElem?_cons_succ, Option.some.injEq] at ho
      subst ho
      have p26 : L 26 = true := hp ⟨26, .guard⟩ (by simp) rfl
      obtain rfl := h.h26 p26
      rw [if_pos (by rfl)]
      go_simp
      exact ⟨_, _, _, _, _, _, _, _, _, _, _, _, _, _, _, _, _, _, _, _, _, _, _, _, _, _, _, _, _, _, _, _, _, _, bq, rfl, ⟨h.low, h.kp, h.kz, h.ks, h.h0, h.h1, h.h2, h.h3, h.h4, h.h5, h.h6, h.h7, h.h8, h.h9, h.h10, h.h11, h.h12, h.h13, h.h14, h.h15, h.h16, h.h17, h.h18, h.h19, h.h20, h.h21, h.h22, h.h23, h.h24, h.h25, h.h26, fun _ => rfl, h.h28, h.h29, h.h30, h.h31, h.h32, h.h33⟩⟩
    | 28, _, hL, ho, hp =>
      simp only [List.getElem?_toArray, List.getElem?_cons_zero, List.getElem?_cons_succ, Option.some.injEq] at ho
      subst ho
      have p26 : L 26 = true := hp ⟨26, .guard⟩ (by simp) rfl
      obtain rfl := h.h26 p26
      rw [if_pos (by rfl)]
      go_simp
      go_at_call 43
      (with_reducible refine (pair13_any 2 _).mono ?_)
      rintro e X2 ⟨rfl, g⟩
      have gb := g.below
      have hlow2 := below_later h.low gb
      exact ⟨_, _, _, _, _, _, _, _, _, _, _, _, _, _, _, _, _, _, _, _, _, _, _, _, _, _, _, _, _, _, _, _, _, _, bq, rfl, ⟨hlow2, h.kp.later gb, h.kz.later gb, h.ks.later gb, h.h0, h.h1, h.h2, h.h3, h.h4, h.h5, h.h6, h.h7, h.h8, h.h9, h.h10, h.h11, h.h12, h.h13, h.h14, h.h15, h.h16, h.h17, h.h18, h.h19, h.h20, h.h21, h.h22, h.h23, h.h24, h.h25, h.h26, h.h27, fun _ => rfl, h.h29, fun e => ⟨(h.h30 e).1, (h.h30 e).2.later gb⟩, h.h31, h.h32, h.h33⟩⟩
    | 29, _, hL, ho, hp =>
      simp only [List.getElem?_toArray, List.getElem?_cons_zero, List.getElem?_cons_succ, Option.some.injEq] at ho
      subst ho
      have p26 : L 26 = true := hp ⟨26, .guard⟩ (by simp) rfl
      obtain rfl := h.h26 p26
      rw [if_pos (by rfl)]
      go_simp
      go_at_call 43
      (with_reducible refine (pair13_any 3 _).mono ?_)
      rintro e X2 ⟨rfl, g⟩
      have gb := g.below
      have hlow2 := below_later h.low gb
      exact ⟨_, _, _, _, _, _, _, _, _, _, _, _, _, _, _, _, _, _, _, _, _, _, _, _, _, _, _, _, _, _, _, _, _, _, bq, rfl, ⟨hlow2, h.kp.later gb, h.kz.later gb, h.ks.later gb, h.h0, h.h1, h.h2, h.h3, h.h4, h.h5, h.h6, h.h7, h.h8, h.h9, h.h10, h.h11, h.h12, h.h13, h.h14, h.h15, h.h16, h.h17, h.h18, h.h19, h.h20, h.h21, h.h22, h.h23, h.h24, h.h25, h.h26, h.h27, h.h28, fun _ => rfl, fun e => ⟨(h.h30 e).1, (h.h30 e).2.later gb⟩, h.h31, h.h32, h.h33⟩⟩
    | 30, _, hL, ho, hp =>
      simp only [List.getElem?_toArray, List.getElem?_cons_zero, List.getElem?_cons_succ, Option.some.injEq] at ho
      subst ho
      have p26 : L 26 = true := hp ⟨26, .guard⟩ (by simp) rfl
      obtain rfl := h.h26 p26
      have p28 : L 28 = true := hp ⟨28, .data⟩ (by simp) rfl
      obtain rfl := h.h28 p28
      have p29 : L 29 = true := hp ⟨29, .data⟩ (by simp) rfl
      obtain rfl := h.h29 p29
      rw [if_pos (by rfl)]
      go_simp
      have gb := (Gr.alloc X (.cells #[.int .u64 2, .int .u64 2, .int .u64 3, .int .u64 3] 53)).below
      have hlow2 := below_later h.low gb
      exact ⟨_, _, _, _, _, _, _, _, _, _, _, _, _, _, _, _, _, _, _, _, _, _, _, _, _, _, _, _, _, _, _, _, _, _, X.heap.size, rfl, ⟨hlow2, h.kp.later gb, h.kz.later gb, h.ks.later gb, h.h0, h.h1, h.h2, h.h3, h.h4, h.h5, h.h6, h.h7, h.h8, h.h9, h.h10, h.h11, h.h12, h.h13, h.h14, h.h15, h.h16, h.h17, h.h18, h.h19, h.h20, h.h21, h.h22, h.h23, h.h24, h.h25, h.h26, h.h27, h.h28, h.h29, fun _ => ⟨rfl, Blk.new _ _ _⟩, h.h31, h.h32, h.h33⟩⟩
    | 31, _, hL, ho, hp =>
      simp only [List.getElem?_toArray, List.getElem?_cons_zero, List.getElem?_cons_succ, Option.some.injEq] at ho
      subst ho
      have p26 : L 26 = true := hp ⟨26, .guard⟩ (by simp) rfl
      obtain rfl := h.h26 p26
      have p27 : L 27 = true := hp ⟨27, .data⟩ (by simp) rfl
      obtain rfl := h.h27 p27
      have p30 : L 30 = true := hp ⟨30, .data⟩ (by simp) rfl
      obtain ⟨rfl, hd30⟩ := h.h30 p30
      rw [if_pos (by rfl)]
      go_simp
      go_at_call 28
      (with_reducible refine (equal23 _ _ _ _ h.ks hd30).mono ?_)
      rintro e X2 ⟨rfl, g⟩
      have gb := g.below
      have hlow2 := below_later h.low gb
      exact ⟨_, _, _, _, _, _, _, _, _, _, _, _, _, _, _, _, _, _, _, _, _, _, _, _, _, _, _, _, _, _, _, _, _, _, bq, rfl, ⟨hlow2, h.kp.later gb, h.kz.later gb, h.ks.later gb, h.h0, h.h1, h.h2, h.h3, h.h4, h.h5, h.h6, h.h7, h.h8, h.h9, h.h10, h.h11, h.h12, h.h13, h.h14, h.h15, h.h16, h.h17, h.h18, h.h19, h.h20, h.h21, h.h22, h.h23, h.h24, h.h25, h.h26, h.h27, h.h28, h.h29, fun e => ⟨(h.h30 e).1, (h.h30 e).2.later gb⟩, fun _ => rfl, h.h32, h.h33⟩⟩
    | 32, _, hL, ho, hp =>
      simp only [List.getElem?_toArray, List.getElem?_cons_zero, List.getElem?_cons_succ, Option.some.injEq] at ho
      subst ho
      have p26 : L 26 = true := hp ⟨26, .data⟩ (by simp) rfl
      obtain rfl := h.h26 p26
      have p31 : L 31 = true := hp ⟨31, .data⟩ (by simp) rfl
      obtain rfl := h.h31 p31
      rw [if_pos (by rfl)]
      go_simp
      exact ⟨_, _, _, _, _, _, _, _, _, _, _, _, _, _, _, _, _, _, _, _, _, _, _, _, _, _, _, _, _, _, _, _, _, _, bq, rfl, ⟨h.low, h.kp, h.kz, h.ks, h.h0, h.h1, h.h2, h.h3, h.h4, h.h5, h.h6, h.h7, h.h8, h.h9, h.h10, h.h11, h.h12, h.h13, h.h14, h.h15, h.h16, h.h17, h.h18, h.h19, h.h20, h.h21, h.h22, h.h23, h.h24, h.h25, h.h26, h.h27, h.h28, h.h29, h.h30, h.h31, fun _ => rfl, h.h33⟩⟩
    | 33, _, hL, ho, hp =>
      simp only [List.getElem?_toArray, List.getElem?_cons_zero, List.getElem?_cons_succ, Option.some.injEq] at ho
      subst ho
      have p32 : L 32 = true := hp ⟨32, .phase⟩ (by simp) rfl
      obtain rfl := h.h32 p32
      rw [if_pos (by rfl)]
      go_simp
      exact ⟨_, _, _, _, _, _, _, _, _, _, _, _, _, _, _, _, _, _, _, _, _, _, _, _, _, _, _, _, _, _, _, _, _, _, bq, rfl, ⟨h.low, h.kp, h.kz, h.ks, h.h0, h.h1, h.h2, h.h3, h.h4, h.h5, h.h6, h.h7, h.h8, h.h9, h.h10, h.h11, h.h12, h.h13, h.h14, h.h15, h.h16, h.h17, h.h18, h.h19, h.h20, h.h21, h.h22, h.h23, h.h24, h.h25, h.h26, h.h27, h.h28, h.h29, h.h30, h.h31, h.h32, fun _ => rfl⟩⟩
set_option maxRecDepth 100000 in
set_option maxHeartbeats 8000000 in
theorem wakes13_true (w : World) : Calls Try.prog 30 #[] w fun e w' => e = .returned (.bool true) ∧ Below w.heap.size w w' := by
  have hmix := mixed
  have HP := Lib.hid (fun (x : Int) W => pair13_any x W)
  go_enter Try.func30, Try.ntmps30
  go_wp2_with fail
  refine (small13_any _).mono ?_
  rintro e w1 ⟨v1, rfl, o1, b1⟩
  obtain ⟨oa, ca, rfl⟩ := o1.shape
  have HO := Lib.hid (vOf_any _ smallT w1 o1.seg wkg smallT_w (smallT_s.mono (by decide)))
  rw [wk4] at HO
  have L1 := Lib.hid b1
  clear o1 b1
  go_wp2_with fail
  refine HO.out.mono ?_
  rintro e w2 ⟨lo, hi, a, rfl, v2, hlo, b2⟩
  have hbox := v2.box
  have L2 := Lib.hid (below_later L1.out b2)
  have HA := Lib.hid (vAt_any v2)
  have V2 := Lib.hid v2
  simp only [hd9] at HA
  clear HO v2 b2
  go_wp2_with fail
  refine HA.out.mono ?_
  rintro e w3 ⟨rfl, b3⟩
  have hh2 : hi ≤ w3.heap.size := Nat.le_trans V2.out.top b3.size
  have gA := Gr.alloc w3 (.cells #[.int .u64 2, .int .u64 2] 53)
  have V3 := Lib.hid ((V2.out.later b3).gr gA)
  have P3 := Lib.hid (Blk.new w3 #[.int .u64 2, .int .u64 2] 53)
  have L3 := Lib.hid (below_later (below_later L2.out b3) gA.below)
  have HR := Lib.hid (vRest_any V3.out (by simp))
  clear HA gA b3
  go_wp2_with fail
  refine HR.out.mono ?_
  rintro e w4 ⟨v4, rfl, o4, b4⟩
  obtain ⟨or, cr, rfl⟩ := o4.shape
  have V4 := Lib.hid (V3.out.later b4)
  have P4 := Lib.hid (P3.out.later b4)
  have L4 := Lib.hid (below_later L3.out b4)
  have O4 := Lib.hid o4
  have HS := Lib.hid (vSeek_any (2, 9) V4.out)
  rw [show ([(2, 2), (3, 3)] : List Pr).filter (fun q => decide (0 ≤ cf2 q (2, 9))) = [(3, 3)] by decide] at HS
  clear HR b4 o4
  go_wp2_with fail
  refine HS.out.mono ?_
  rintro e w5 ⟨rfl, v5, m5⟩
  have V5 := Lib.hid v5
  have P5 := Lib.hid (m5.blk9 P4.out hh2)
  have O5 := Lib.hid (m5.own9 O4.out (by simp; omega))
  have L5 := Lib.hid (L4.out.trans (m5.below (fun k hk => by have := L1.out.size; omega) L4.out.size))
  have HA := Lib.hid (vAt_any v5)
  simp only [hd9] at HA
  clear HS v5 m5
  go_wp2_with fail
  refine HA.out.mono ?_
  rintro e w6 ⟨rfl, b6⟩
  have gA := Gr.alloc w6 (.cells #[.int .u64 3, .int .u64 3] 53)
  have V6 := Lib.hid ((V5.out.later b6).gr gA)
  have P6 := Lib.hid ((P5.out.later b6).later gA.below)
  have O6 := Lib.hid ((O5.out.later b6).later gA.below)
  have Q6 := Lib.hid (Blk.new w6 #[.int .u64 3, .int .u64 3] 53)
  have hh6 : hi ≤ w6.heap.size := by have := V5.out.top; have := b6.size; omega
  have L6 := Lib.hid (below_later (below_later L5.out b6) gA.below)
  have HN := Lib.hid (vNext_any V6.out)
  clear HA gA b6
  go_wp2_with fail
  refine HN.out.mono ?_
  rintro e w7 ⟨rfl, v7, m7⟩
  have V7 := Lib.hid v7
  have P7 := Lib.hid (m7.blk9 P6.out hh2)
  have Q7 := Lib.hid (m7.blk9 Q6.out hh6)
  have O7 := Lib.hid (m7.own9 O6.out (by simp; omega))
  have L7 := Lib.hid (L6.out.trans (m7.below (fun k hk => by have := L1.out.size; omega) L6.out.size))
  have HN := Lib.hid (vNext_end v7)
  clear v7 m7
  go_wp2_with fail
  refine HN.out.mono ?_
  rintro e w8 ⟨rfl, b8⟩
  have P8 := Lib.hid (P7.out.later b8)
  have Q8 := Lib.hid (Q7.out.later b8)
  have O8 := Lib.hid (O7.out.seg.later b8)
  have L8 := Lib.hid (below_later L7.out b8)
  clear HN b8
  go_upto_region 9 with (fail)
  refine WK13_region w8 a w3.heap.size w6.heap.size _ _ _ _ _ _ _ _ _ _ _ _ _ _ _ _ _ _ _ _ _ _ _ _ _ _ _ _ _ _ _ _ w8 _ rfl (Below.refl _ _) P8.out Q8.out O8.out ?_
  rintro L t0 t41 t42 t43 t44 t45 t46 t47 t48 t49 t50 t51 t52 t53 t54 t55 t56 t57 t58 t59 t60 t61 t62 t63 t64 t65 t66 t67 t68 t69 t70 t71 t72 t73 bq X hall h
  have e0 := h.h33 (hall 33 (by decide))
  have hlow := h.low
  subst e0
  clear h hall
  dsimp only
  go_wp2
  go_ret
  exact ⟨rfl, below_later L8.out hlow⟩
end Go.Proofs.Ytlhigfphfbmbjaa

