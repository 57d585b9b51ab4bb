/- dict.Bytes. -/
import Derived.Test.YtmghbejbdkoehaaK14
namespace Go.Proofs.Kit
open Go.RowKit
/-- What lies while a dictionary's bytes are laid. -/
structure BJ (tD tb te tE tf : TypeId) (w : World) (ob : Nat) (a b : Nat → Value) (fv v : Value) (l : List Int) (W : World) : Prop where
  k0 : Blk W w.heap.size (dcs a b) tD
  k1 : Blk W (w.heap.size + 1) #[nilV] tb
  k2 : Blk W (w.heap.size + 2) #[.int .i64 0] tE
  kf : Blk W (ob + 1) #[fv] tf
  kx : Blk W (ob + 2) (dcs a b) tD
  ko : Blk W ob #[v] tb
  o : Ow te w.heap.size W v (l.map (Value.int .u8))
  low : Below w.heap.size w W
  h0 : w.heap.size + 3 ≤ ob
section
variable {tD tb te tE tf : TypeId} {w : World} {ob : Nat} {a b : Nat → Value} {fv v : Value} {l : List Int} {W W' : World}
theorem BJ.aside {D : Nat} (h : BJ tD tb te tE tf w ob a b fv v l W) (ha : Aside D W W') (hD : w.heap.size ≤ D) : BJ tD tb te tE tf w ob a b fv v l W' :=
  ⟨ha.blk h.k0, ha.blk h.k1, ha.blk h.k2, ha.blk h.kf, ha.blk h.kx, ha.blk h.ko, ha.ow h.o, ha.below h.low hD (Nat.le_refl _), h.h0⟩
theorem BJ.later (h : BJ tD tb te tE tf w ob a b fv v l W) (g : Below W.heap.size W W') : BJ tD tb te tE tf w ob a b fv v l W' :=
  ⟨h.k0.later g, h.k1.later g, h.k2.later g, h.kf.later g, h.kx.later g, h.ko.later g, h.o.later g, h.low.trans (g.mono h.low.size), h.h0⟩
theorem BJ.lj (h : BJ tD tb te tE tf w ob a b fv v l W) : LJ tb te w W ob v v l W := ⟨h.ko, h.o, ButR.refl _ _, fun _ h _ => h, h.low⟩
theorem BJ.lay {v' : Value} {l' : List Int} (h : BJ tD tb te tE tf w ob a b fv v l W) (k : LJ tb te w W ob v v' l' W') (h1 : te ≠ tD) (h2 : te ≠ tb) (h3 : te ≠ tE) (h4 : te ≠ tf) : BJ tD tb te tE tf w ob a b fv v' l' W' := by
  have hh := h.h0
  refine ⟨k.b.blk h.k0 ?_, k.b.blk h.k1 ?_, k.b.blk h.k2 ?_, k.b.blk h.kf ?_, k.b.blk h.kx ?_, k.k, k.o, k.low, h.h0⟩
  · rintro (e | e)
    · omega
    · exact h.o.ne_blk h.k0 h1 e
  · rintro (e | e)
    · omega
    · exact h.o.ne_blk h.k1 h2 e
  · rintro (e | e)
    · omega
    · exact h.o.ne_blk h.k2 h3 e
  · rintro (e | e)
    · omega
    · exact h.o.ne_blk h.kf h4 e
  · rintro (e | e)
    · omega
    · exact h.o.ne_blk h.kx h1 e
theorem BJ.keep {v' : Value} {l' : List Int} {D : Nat} (h : BJ tD tb te tE tf w ob a b fv v l W) (k : LJ tb te w W ob v v' l' W') (hn : NC D W) : Keep2 D W W' := by
  have h1 := hn.blk h.ko
  have h2 := hn.own h.o.owns
  refine ⟨k.b.size, k.b.same D ?_ (by have := hn.1; omega), k.b.same (D + 1) ?_ hn.1⟩
  · rintro (e | e)
    · exact h1.1 e.symm
    · exact (h2 D e).1 rfl
  · rintro (e | e)
    · exact h1.2 e.symm
    · exact (h2 _ e).2 rfl
end
end Go.Proofs.Kit
namespace Go.Proofs.Ytmghbejbdkoehaa
open Go.RowKit Go.Proofs.Kit Go.Shelf
attribute [local go_sem] Oper.semAt_some

/-- The bytes of the first kinds. -/
def bytesD (T : Nat → List ByteArray) (j : Nat) : List Int := (List.range j).flatMap fun k => bytesL (T k)
theorem bytesD_succ (T : Nat → List ByteArray) (j : Nat) : bytesD T (j + 1) = bytesD T j ++ bytesL (T j) := by simp [bytesD, List.range_succ]
theorem bytesD_len (T : Nat → List ByteArray) (h : ∀ k, k < 5 → (T k).length ≤ 128 ∧ ∀ s ∈ T k, s.size ≤ 4000) : ∀ j, j ≤ 5 → (bytesD T j).length ≤ 5000000 * j
  | 0, _ => by simp [bytesD]
  | j + 1, hj => by
    rw [bytesD_succ, List.length_append]
    have h1 := bytesD_len T h j (by omega)
    obtain ⟨h2, h3⟩ := h j (by omega)
    have h4 := bytesL_len (T j) h3 (by omega)
    omega
theorem dgood_sizes {T : Nat → List ByteArray} {S : Nat → List Int} (h : DGood hsh T S) : ∀ k, k < 5 → (T k).length ≤ 128 ∧ ∀ s ∈ T k, s.size ≤ 4000 := fun k hk =>
  ⟨h.few k hk, fun s hs => by have := mayB_size (h.may k hk s hs); omega⟩
set_option maxRecDepth 100000 in
set_option maxHeartbeats 2000000 in
theorem dbytes_bad (a b : Nat → Value) (T : Nat → List ByteArray) (S : Nat → List Int) (w : World) (h : DSl w a b T S) (hL : DLim T S) (hg : ¬ DGood hsh T S) :
    Calls Try.prog 30 #[.agg (dcs a b)] w fun e w' => e = .returned (.tuple #[nilV, .int .i64 160]) ∧ Below w.heap.size w w' := by
  have HS := Lib.hid h
  have HG := Lib.hid hg
  clear h hg
  simp only [dcs]
  obtain ⟨W1, hW1⟩ : ∃ W1, W1 = ((w.alloc (.cells (dcs a b) 28)).alloc (.cells #[nilV] 59)).alloc (.cells #[.int .i64 0] 32) := ⟨_, rfl⟩
  have e1 : ((w.alloc (.cells #[a 0, b 0, a 1, b 1, a 2, b 2, a 3, b 3, a 4, b 4] 28)).alloc (.cells #[.slice none 0 0] 59)).alloc (.cells #[.int .i64 0] 32) = W1 := by rw [hW1]; rfl
  have k0 : Blk W1 w.heap.size (dcs a b) 28 := by rw [hW1]; exact ((Blk.new w _ _).alloc _).alloc _
  have k1 : Blk W1 (w.heap.size + 1) #[nilV] 59 := by
    rw [hW1]; have := (Blk.new (w.alloc (.cells (dcs a b) 28)) #[nilV] 59).alloc (.cells #[.int .i64 0] 32); simpa using this
  have k2 : Blk W1 (w.heap.size + 2) #[.int .i64 0] 32 := by
    rw [hW1]; have := Blk.new ((w.alloc (.cells (dcs a b) 28)).alloc (.cells #[nilV] 59)) #[.int .i64 0] 32; simpa using this
  have g1 : Below w.heap.size w W1 := by rw [hW1]; exact ((Gr.alloc _ _).trans ((Gr.alloc _ _).trans (Gr.alloc _ _))).below
  clear hW1
  obtain ⟨c0, c1, c2, c3, c4, c5, c6, c7, c8, c9⟩ := dcells k0
  go_enter Try.func30, Try.ntmps30
  go_wp2_with fail
  refine (dcheck_any a b T S W1 (HS.out.later g1) hL 160 (.inr ⟨HG.out, rfl⟩)).mono ?_
  rintro en W2 ⟨rfl, g2⟩
  have k12 := k1.later g2
  have k22 := k2.later g2
  have b2 := g1.trans (g2.mono g1.size)
  obtain ⟨d0, z0, l0⟩ : W2.cell? ⟨w.heap.size + 1, 0, none⟩ = some nilV ∧ W2.frozen? ⟨w.heap.size + 1, 0, none⟩ = false ∧ w.heap.size + 1 < W2.heap.size := ⟨k12.cell 0, k12.frozen 0, k12.lt⟩
  obtain ⟨d1, z1, l1⟩ : W2.cell? ⟨w.heap.size + 1 + 1, 0, none⟩ = some (.int .i64 0) ∧ W2.frozen? ⟨w.heap.size + 1 + 1, 0, none⟩ = false ∧ w.heap.size + 1 + 1 < W2.heap.size := ⟨k22.cell 0, k22.frozen 0, k22.lt⟩
  have r1 := (k12.set 0 nilV).other (p := ⟨w.heap.size + 1 + 1, 0, none⟩) (by simp) (.int .i64 160)
  have r2 := (k22.other (p := ⟨w.heap.size + 1, 0, none⟩) (by simp) nilV).set 0 (.int .i64 160)
  have C0 := r1.cell 0
  have C1 := r2.cell 0
  simp only [List.setIfInBounds_toArray, List.set_cons_zero, List.getElem?_toArray, List.getElem?_cons_zero] at C0 C1
  have HB := Lib.hid ((b2.setCell (p := ⟨w.heap.size + 1, 0, none⟩) (by simp) nilV).setCell (p := ⟨w.heap.size + 1 + 1, 0, none⟩) (by simp; omega) (.int .i64 160))
  clear e1 c0 c1 c2 c3 c4 c5 c6 c7 c8 c9 k0 k1 k2 g1 g2 k12 k22 b2 r1 r2
  go_wp2
  exact bodyPost_ret (v := .tuple #[nilV, .int .i64 160]) (by simp [results, Try.results30, go_sem, C0, C1]) rfl ⟨rfl, HB.out⟩
set_option maxRecDepth 100000 in
set_option maxHeartbeats 4000000 in
theorem dbytes_in (a b : Nat → Value) (T : Nat → List ByteArray) (S : Nat → List Int) (w : World) (h : DSl w a b T S) (hL : DLim T S) (hg : DGood hsh T S) :
    CallsIn Fence.wide 6 Try.prog 30 #[.agg (dcs a b)] w fun e w' => ∃ v, e = .returned (.tuple #[v, .int .i64 0]) ∧ Ow 5 w.heap.size w' v ((bytesD T 5).map (Value.int .u8)) ∧ Below w.heap.size w w' := by
  have hmf : ∀ (fn : Fn) (first cap : Array Value) (w : World), (Instr.makeFunc fn first cap).run Try.prog w = .ok (.func fn first cap) w := fun _ _ _ _ => rfl
  have HS := Lib.hid h
  have HL := Lib.hid hL
  have HG := Lib.hid hg
  have ha : ∀ k, ∃ o m c, a k = .slice o m c := fun k => by obtain ⟨o, c, e, _⟩ := (h k).1.mshape; exact ⟨o, _, c, e⟩
  have hb : ∀ k, ∃ o m c, b k = .slice o m c := fun k => by obtain ⟨o, c, e, _⟩ := (h k).2.mshape; exact ⟨o, _, c, e⟩
  have HT1 := Lib.hid (fun bx => tables1_in 5 (by decide) bx a b ha hb)
  clear h hL hg ha hb
  simp only [dcs]
  obtain ⟨W1, hW1⟩ : ∃ W1, W1 = ((w.alloc (.cells (dcs a b) 28)).alloc (.cells #[nilV] 59)).alloc (.cells #[.int .i64 0] 32) := ⟨_, rfl⟩
  have e1 : ((w.alloc (.cells #[a 0, b 0, a 1, b 1, a 2, b 2, a 3, b 3, a 4, b 4] 28)).alloc (.cells #[.slice none 0 0] 59)).alloc (.cells #[.int .i64 0] 32) = W1 := by rw [hW1]; rfl
  have k0 : Blk W1 w.heap.size (dcs a b) 28 := by rw [hW1]; exact ((Blk.new w _ _).alloc _).alloc _
  have k1 : Blk W1 (w.heap.size + 1) #[nilV] 59 := by
    rw [hW1]; have := (Blk.new (w.alloc (.cells (dcs a b) 28)) #[nilV] 59).alloc (.cells #[.int .i64 0] 32); simpa using this
  have k2 : Blk W1 (w.heap.size + 2) #[.int .i64 0] 32 := by
    rw [hW1]; have := Blk.new ((w.alloc (.cells (dcs a b) 28)).alloc (.cells #[nilV] 59)) #[.int .i64 0] 32; simpa using this
  have g1 : Below w.heap.size w W1 := by rw [hW1]; exact ((Gr.alloc _ _).trans ((Gr.alloc _ _).trans (Gr.alloc _ _))).below
  clear hW1
  obtain ⟨c0, c1, c2, c3, c4, c5, c6, c7, c8, c9⟩ := dcells k0
  refine callsIn_of_wp_marks Try.func30 rfl trivial ?_ rfl
  simp only [Try.ntmps30, List.size_toArray, List.length_cons, List.length_nil, Nat.reduceAdd, Nat.reduceSub, Array.replicate_succ, Array.replicate_zero, List.push_toArray, List.append_toArray, List.nil_append, List.cons_append]
  refine wpIn_wide.2 ?_
  go_wp2_with fail
  refine (dcheck_any a b T S W1 (HS.out.later g1) HL.out 0 (.inl ⟨HG.out, rfl⟩)).mono ?_
  rintro en W2 ⟨rfl, g2⟩
  have k02 := k0.later g2
  have k12 := k1.later g2
  have k22 := k2.later g2
  have b2 := g1.trans (g2.mono g1.size)
  have hs2 := k22.lt
  clear e1 c0 c1 c2 c3 c4 c5 c6 c7 c8 c9 k0 k1 k2 g1 g2
  obtain ⟨c0, c1, c2, c3, c4, c5, c6, c7, c8, c9⟩ := dcells k02
  obtain ⟨fv, hfv⟩ : ∃ fv, fv = Value.func (.func 53) #[] #[.pointer (some ⟨W2.heap.size, 0, none⟩)] := ⟨_, rfl⟩
  obtain ⟨W3, hW3⟩ : ∃ W3, W3 = (W2.alloc (.cells #[nilV] 59)).alloc (.cells #[fv] 100) := ⟨_, rfl⟩
  have e3 : (W2.alloc (.cells #[.slice none 0 0] 59)).alloc (.cells #[.func (.func 53) #[] #[.pointer (some ⟨W2.heap.size, 0, none⟩)]] 100) = W3 := by rw [hW3, hfv]
  have g3 : Below W2.heap.size W2 W3 := by rw [hW3]; exact ((Gr.alloc _ _).trans (Gr.alloc _ _)).below
  have s3 : W3.heap.size = W2.heap.size + 2 := by rw [hW3]; simp
  have ko : Blk W3 W2.heap.size #[nilV] 59 := by rw [hW3]; exact (Blk.new _ _ _).alloc _
  have kf : Blk W3 (W2.heap.size + 1) #[fv] 100 := by rw [hW3]; have := Blk.new (W2.alloc (.cells #[nilV] 59)) #[fv] 100; simpa using this
  have k03 := k02.later g3
  obtain ⟨c0, c1, c2, c3, c4, c5, c6, c7, c8, c9⟩ := dcells k03
  clear hW3
  go_wp2_with (go_at_call 40; refine (tables_any a b _).mono ?_; rintro e w' ⟨rfl, rfl⟩)
  rename_i K hK
  obtain ⟨W0, hW0⟩ : ∃ W0, W0 = W3.alloc (.cells (dcs a b) 28) := ⟨_, rfl⟩
  have g0 : Below W3.heap.size W3 W0 := by rw [hW0]; exact (Gr.alloc _ _).below
  have kx : Blk W0 (W2.heap.size + 2) (dcs a b) 28 := by rw [hW0, ← s3]; exact Blk.new _ _ _
  rw [← hW0]
  have I0 : BJ 28 59 5 32 100 w W2.heap.size a b fv nilV (bytesD T 0) W0 :=
    ⟨k03.later g0, (k12.later g3).later g0, (k22.later g3).later g0, kf.later g0, kx, ko.later g0, Ow.nil _ _ _, (b2.trans (g3.mono b2.size)).trans (g0.mono (b2.trans (g3.mono b2.size)).size), by omega⟩
  have hseq := HT1.out (W2.heap.size + 2)
  have HI0 := Lib.hid I0
  have hw1 : w.heap.size ≤ W0.heap.size := I0.low.size
  clear I0 HT1 hW0 g0 kx g3 ko kf k03 k02 k12 k22 e3 c0 c1 c2 c3 c4 c5 c6 c7 c8 c9 b2
  refine (wpIn_wide (n := 6)).1 ?_
  refine rangeH (α := Nat) rfl (by decide) (gf := 63) (lb := #[.pointer (some ⟨W2.heap.size + 2, 0, none⟩)]) rfl trivial (enters_of Try.func63 (by kernel_rfl) rfl) hseq (fun _ => rfl)
    (fun pre W => ∃ v, BJ 28 59 5 32 100 w W2.heap.size a b fv v (bytesD T pre.length) W)
    (fun _ _ _ => False)
    (fun pre X X' h ha => by obtain ⟨v, h⟩ := h; exact ⟨v, h.aside ha hw1⟩) (fun x pre X X' h ha => h) (fun pre X h => by obtain ⟨v, h⟩ := h; exact h.kx) (fun pre X X' h hb => by obtain ⟨v, h⟩ := h; exact ⟨v, h.later hb⟩) ⟨_, HI0.out⟩
    (fun x r => { tmps := #[.agg #[a 0, b 0, a 1, b 1, a 2, b 2, a 3, b 3, a 4, b 4], .pointer (some ⟨w.heap.size, 0, none⟩), .pointer (some ⟨w.heap.size + 1, 0, none⟩), .pointer (some ⟨w.heap.size + 1 + 1, 0, none⟩), .pointer (some ⟨W2.heap.size, 0, none⟩), .pointer (some ⟨W2.heap.size + 1, 0, none⟩), undef, .pointer (some ⟨r, 0, none⟩), undef, .agg #[a 0, b 0, a 1, b 1, a 2, b 2, a 3, b 3, a 4, b 4], .int .i64 0, .bool false, .func (.func 53) #[] #[.pointer (some ⟨W2.heap.size, 0, none⟩)], .agg #[a 0, b 0, a 1, b 1, a 2, b 2, a 3, b 3, a 4, b 4], .func (.func 63) #[] #[.pointer (some ⟨W2.heap.size + 2, 0, none⟩)], .int .i64 (x : Int), .agg #[a x, b x], undef, undef, undef, undef, undef, undef, undef, undef], defers := [] })
    (fun x r W => Blk W r #[a x, b x] 25) (fun x r X X' h ha => ha.blk h) ?assign ?body ?done ?stop
  case assign =>
    intro l x W K hK
    obtain ⟨oa, ca, ea, _⟩ := (HS.out x).1.mshape
    obtain ⟨ob, cb, eb, _⟩ := (HS.out x).2.mshape
    simp only [ea, eb] at hK ⊢
    gi_wp2
    exact hK _ _ (Gr.alloc _ _).below (Nat.le_refl _) (Blk.new _ _ _)
  case stop => exact fun D x pre W _ h => h.elim
  case body =>
    rintro lp pre k r W ⟨v, hI⟩ hlen ⟨rfl, hk⟩ hn hR
    simp only [List.length_range] at hI
    obtain ⟨oa, ca, ea, _⟩ := (HS.out k).1.mshape
    obtain ⟨ob, cb, eb, _⟩ := (HS.out k).2.mshape
    have hT := (HS.out k).1
    rw [ea] at hT
    simp only [ea, eb] at hR ⊢
    have c0 := hR.cell 0
    have c5 := hI.kf.cell 0
    rw [hfv] at c5
    simp only [List.getElem?_toArray, List.getElem?_cons_zero] at c0 c5
    obtain ⟨hf1, hf2⟩ := dgood_sizes HG.out k hk
    have hbl := bytesD_len T (dgood_sizes HG.out) k (by omega)
    have hcall := dlay_any w W2.heap.size (by omega) v (bytesD T k) _ (T k) W hT hI.lj hf2 (by omega) (by omega)
    have HCALL := Lib.hid hcall
    have HI := Lib.hid hI
    have HN := Lib.hid hn
    clear hI hn hT hcall hR hf2 hlen
    gi_wp2_with fail
    refine ⟨trivial, (CallsIn.inRound lp (callsIn_wide.2 HCALL.out)).mono ?_⟩
    rintro e W4 ⟨rfl, v', hJ⟩
    rw [← bytesD_succ] at hJ
    have HJ := Lib.hid hJ
    clear hJ c0 c5
    gi_wp2_with fail
    exact ⟨HI.out.keep HJ.out HN.out, v', by rw [range_snoc, List.length_range]; exact HI.out.lay HJ.out (by decide) (by decide) (by decide) (by decide)⟩
  case done =>
    rintro D xs W rfl ⟨v, hI⟩ hD hdef
    simp only [List.length_range] at hI
    obtain ⟨ov, cv, ev⟩ := hI.o.shape
    obtain ⟨M, hM⟩ : ∃ M, M = ((bytesD T 5).map (Value.int .u8)).length := ⟨_, rfl⟩
    rw [← hM] at ev
    subst ev
    obtain ⟨co, _, _⟩ : W.cell? ⟨W2.heap.size, 0, none⟩ = some (.slice ov M cv) ∧ True ∧ True := ⟨hI.ko.cell 0, trivial, trivial⟩
    obtain ⟨d0, z0, l0⟩ : W.cell? ⟨w.heap.size + 1, 0, none⟩ = some nilV ∧ W.frozen? ⟨w.heap.size + 1, 0, none⟩ = false ∧ w.heap.size + 1 < W.heap.size := ⟨hI.k1.cell 0, hI.k1.frozen 0, hI.k1.lt⟩
    obtain ⟨d1, z1, l1⟩ : W.cell? ⟨w.heap.size + 1 + 1, 0, none⟩ = some (.int .i64 0) ∧ W.frozen? ⟨w.heap.size + 1 + 1, 0, none⟩ = false ∧ w.heap.size + 1 + 1 < W.heap.size := ⟨hI.k2.cell 0, hI.k2.frozen 0, hI.k2.lt⟩
    have hnd1 : D ≠ w.heap.size + 1 := by have hh : W.heap[w.heap.size + 1]? = _ := hI.k1; rintro rfl; rw [hh] at hdef; cases hdef
    have hnd2 : D ≠ w.heap.size + 1 + 1 := by have hh : W.heap[w.heap.size + 2]? = _ := hI.k2; rintro rfl; rw [hh] at hdef; cases hdef
    have hdr : ((W.setCell ⟨w.heap.size + 1, 0, none⟩ (.slice ov M cv)).setCell ⟨w.heap.size + 1 + 1, 0, none⟩ (.int .i64 0)).heap[D]? = some (.deferred (some [])) :=
      (Below.heap_setCell _ _ _ _ (by simpa using hnd2)).trans ((Below.heap_setCell _ _ _ _ (by simpa using hnd1)).trans hdef)
    have r1 := (((hI.k1.set 0 (.slice ov M cv)).other (p := ⟨w.heap.size + 1 + 1, 0, none⟩) (by simp) (.int .i64 0)).putD (.deferred none) hdr)
    have r2 := ((hI.k2.other (p := ⟨w.heap.size + 1, 0, none⟩) (by simp) (.slice ov M cv)).set 0 (.int .i64 0)).putD (.deferred none) hdr
    have C0 := r1.cell 0
    have C1 := r2.cell 0
    simp only [List.setIfInBounds_toArray, List.set_cons_zero, List.getElem?_toArray, List.getElem?_cons_zero] at C0 C1
    have o2 := (hI.o.set_blk hI.k1 (by decide) 0 (.slice ov M cv)).set_blk (hI.k2.other (p := ⟨w.heap.size + 1, 0, none⟩) (by simp) (.slice ov M cv)) (by decide) 0 (.int .i64 0)
    have o3 : Ow 5 w.heap.size (((W.setCell ⟨w.heap.size + 1, 0, none⟩ (.slice ov M cv)).setCell ⟨w.heap.size + 1 + 1, 0, none⟩ (.int .i64 0)).putObj D (.deferred none)) (.slice ov M cv) ((bytesD T 5).map (Value.int .u8)) :=
      o2.same fun g hg => World.putObj_heap_other (by rintro rfl; exact o2.ne_def hdr hg)
    have bR := (hI.low.setCell (p := ⟨w.heap.size + 1, 0, none⟩) (by simp) (.slice ov M cv)).setCell (p := ⟨w.heap.size + 1 + 1, 0, none⟩) (by simp; omega) (.int .i64 0)
    have HR := Lib.hid (And.intro o3 (bR.trans (below_put' (B := w.heap.size) _ (l := D) (.deferred none) (by omega))))
    have HD := Lib.hid hdr
    clear hI hdef hseq r1 r2 o2 o3 bR hdr hM hnd1 hnd2
    refine hK _ _ ?_
    go_wp2
    refine ⟨by simp, .inl ⟨_, _, rfl, run_takeDeferred HD.out, ?_⟩⟩
    exact ⟨.tuple #[.slice ov M cv, .int .i64 0], by simp [results, Try.results30, go_sem, C0, C1], _, rfl, HR.out.1, HR.out.2⟩
theorem dbytes_ok (a b : Nat → Value) (T : Nat → List ByteArray) (S : Nat → List Int) (w : World) (h : DSl w a b T S) (hL : DLim T S) (hg : DGood hsh T S) :
    Calls Try.prog 30 #[.agg (dcs a b)] w fun e w' => ∃ v, e = .returned (.tuple #[v, .int .i64 0]) ∧ Ow 5 w.heap.size w' v ((bytesD T 5).map (Value.int .u8)) ∧ Below w.heap.size w w' := callsIn_wide.1 (dbytes_in a b T S w h hL hg)
end Go.Proofs.Ytmghbejbdkoehaa

