import Derived.Test.YtmghbejbdkoehaaMe
/- dict.Id, Name, Names. -/
namespace Go.Proofs.Kit
open Go.RowKit
/-- What Id answers. -/
def IdR (hs : ByteArray → Nat) (T : Nat → List ByteArray) (S : Nat → List Int) (k : Int) (s : ByteArray) (i : Int) (ok : Bool) : Prop :=
  (DGood hs T S ∧ (∃ n : Nat, n < 5 ∧ k = (n : Int) ∧ s ∈ T n ∧ i = (pos (T n) s : Int)) ∧ ok = true) ∨ (¬ (DGood hs T S ∧ ∃ n : Nat, n < 5 ∧ k = (n : Int) ∧ s ∈ T n) ∧ i = 0 ∧ ok = false)
theorem idR_ex (hs : ByteArray → Nat) (T : Nat → List ByteArray) (S : Nat → List Int) (k : Int) (s : ByteArray) : ∃ i ok, IdR hs T S k s i ok := by
  by_cases h : DGood hs T S ∧ ∃ n : Nat, n < 5 ∧ k = (n : Int) ∧ s ∈ T n
  · obtain ⟨h1, n, h2, h3, h4⟩ := h
    exact ⟨_, _, .inl ⟨h1, ⟨n, h2, h3, h4, rfl⟩, rfl⟩⟩
  · exact ⟨_, _, .inr ⟨h, rfl, rfl⟩⟩
/-- What Name answers. -/
def NameR (hs : ByteArray → Nat) (T : Nat → List ByteArray) (S : Nat → List Int) (k i : Int) (r : ByteArray) (e : Int) : Prop :=
  (¬ DGood hs T S ∧ r = ⟨#[]⟩ ∧ e = 160) ∨ (DGood hs T S ∧ ¬ (0 ≤ k ∧ k < 5) ∧ r = ⟨#[]⟩ ∧ e = 2) ∨
  (DGood hs T S ∧ ∃ n : Nat, n < 5 ∧ k = (n : Int) ∧ (((∃ h : i.toNat < (T n).length, 0 ≤ i ∧ r = (T n)[i.toNat]) ∧ e = 0) ∨ (¬ (0 ≤ i ∧ i < ((T n).length : Int)) ∧ r = ⟨#[]⟩ ∧ e = 4)))
theorem nameR_ex (hs : ByteArray → Nat) (T : Nat → List ByteArray) (S : Nat → List Int) (k i : Int) : ∃ r e, NameR hs T S k i r e := by
  by_cases h : DGood hs T S
  · by_cases hk : 0 ≤ k ∧ k < 5
    · by_cases c : 0 ≤ i ∧ i < ((T k.toNat).length : Int)
      · exact ⟨_, _, .inr (.inr ⟨h, k.toNat, by omega, by omega, .inl ⟨⟨by omega, c.1, rfl⟩, rfl⟩⟩)⟩
      · exact ⟨_, _, .inr (.inr ⟨h, k.toNat, by omega, by omega, .inr ⟨c, rfl, rfl⟩⟩)⟩
    · exact ⟨_, _, .inr (.inl ⟨h, hk, rfl, rfl⟩)⟩
  · exact ⟨_, _, .inl ⟨h, rfl, rfl⟩⟩
/-- What Names tells. -/
def NamesR (hs : ByteArray → Nat) (T : Nat → List ByteArray) (S : Nat → List Int) (k : Int) (l : List ByteArray) : Prop :=
  (DGood hs T S ∧ ∃ n : Nat, n < 5 ∧ k = (n : Int) ∧ l = T n) ∨ (¬ (DGood hs T S ∧ 0 ≤ k ∧ k < 5) ∧ l = [])
theorem namesR_ex (hs : ByteArray → Nat) (T : Nat → List ByteArray) (S : Nat → List Int) (k : Int) : ∃ l, NamesR hs T S k l := by
  by_cases h : DGood hs T S ∧ 0 ≤ k ∧ k < 5
  · exact ⟨_, .inl ⟨h.1, k.toNat, by omega, by omega, rfl⟩⟩
  · exact ⟨_, .inr ⟨h, rfl⟩⟩
end Go.Proofs.Kit
namespace Go.Proofs.Ytmghbejbdkoehaa
open Go.RowKit Go.Proofs.Kit Go.Shelf

theorem sl_arg {w : World} {o : Option Addr} {n c : Nat} {l : List Value} (h : Sl w (.slice o n c) l) : ArgV w o c l ∧ l.length = n := by
  rcases h.2 with ⟨h1, rfl⟩ | ⟨b, off, cap, h1, h2, h3, h4, h5⟩
  · injection h1 with e1 e2 e3
    exact ⟨.inl ⟨e1, rfl, e3⟩, e2.symm⟩
  · injection h1 with e1 e2 e3
    exact ⟨.inr ⟨_, e1, fun i hi => by rw [Addr.add_lit]; exact h5 i hi⟩, e2.symm⟩
set_option maxRecDepth 100000 in
set_option maxHeartbeats 2000000 in
theorem id_any (a b : Nat → Value) (T : Nat → List ByteArray) (S : Nat → List Int) (w : World) (h : DSl w a b T S) (hL : DLim T S) (k : Int) (s : ByteArray) (hs : s.size ≤ 9223372036854775807) (i : Int) (ok : Bool) (hr : IdR hsh T S k s i ok) :
    Calls Try.prog 23 #[.agg (dcs a b), .int .i64 k, .string s] w fun en w' => en = .returned (.tuple #[.int .i64 i, .bool ok]) ∧ Below w.heap.size w w' := by
  have ha : ∀ k, ∃ o m c, a k = .slice o m c := fun k => by obtain ⟨o, c, e, _⟩ := (h k).1.mshape; exact ⟨o, _, c, e⟩
  have hb : ∀ k, ∃ o m c, b k = .slice o m c := fun k => by obtain ⟨o, c, e, _⟩ := (h k).2.mshape; exact ⟨o, _, c, e⟩
  have HS := Lib.hid h
  have HL := Lib.hid hL
  clear h hL
  obtain ⟨v, e, hv⟩ := tabR_ex hsh T S a b k
  have hcall := fun W g => tableOf_any a b T S W (HS.out.gr (g : Gr w W)) HL.out k v e hv
  simp only [dcs]
  go_enter Try.func23, Try.ntmps23
  go_wp2_with fail
  refine (hcall _ (Gr.alloc _ _)).mono ?_
  rintro en W2 ⟨rfl, g2⟩
  have B2 := Lib.hid ((Gr.alloc w (.cells #[a 0, b 0, a 1, b 1, a 2, b 2, a 3, b 3, a 4, b 4] 28)).below.trans (g2.mono (by simp)))
  clear g2 hcall
  rcases hv with ⟨hg, rfl, rfl⟩ | ⟨hg, hk, rfl, rfl⟩ | ⟨hg, n, hn, rfl, rfl, rfl⟩
  · obtain ⟨rfl, rfl⟩ : i = 0 ∧ ok = false := by
      rcases hr with ⟨h, _⟩ | ⟨_, h⟩
      · exact (hg h).elim
      · exact h
    clear hr hg
    go_wp2
    go_ret2
    exact ⟨rfl, B2.out.trans ((Gr.alloc _ _).below.mono B2.out.size)⟩
  · obtain ⟨rfl, rfl⟩ : i = 0 ∧ ok = false := by
      rcases hr with ⟨_, ⟨n, h1, h2, _⟩, _⟩ | ⟨_, h⟩
      · exact (hk (by omega)).elim
      · exact h
    clear hr hg hk
    go_wp2
    go_ret2
    exact ⟨rfl, B2.out.trans ((Gr.alloc _ _).below.mono B2.out.size)⟩
  · have hF : FindR (T n) (S n) s i ok := by
      rcases hr with ⟨_, ⟨m, h1, h2, h3, h4⟩, h5⟩ | ⟨h, h5, h6⟩
      · obtain rfl : m = n := by omega
        exact .inl ⟨hg.good _ hn, h3, h4, h5⟩
      · exact .inr ⟨fun e => h ⟨hg, n, hn, rfl, e.2⟩, h5, h6⟩
    obtain ⟨oa, ma, ca, ea⟩ := ha n
    obtain ⟨ob, mb, cb, eb⟩ := hb n
    have hT := (HS.out n).1
    have hS := (HS.out n).2
    rw [ea] at hT ⊢
    rw [eb] at hS ⊢
    have HT := Lib.hid hT
    have HS2 := Lib.hid hS
    have HF := Lib.hid hF
    clear hr hg hF hT hS
    go_wp2_with fail
    have hB : Below w.heap.size w (W2.alloc (.cells #[.slice oa ma ca, .slice ob mb cb] 25)) := B2.out.trans ((Gr.alloc _ _).below.mono B2.out.size)
    refine (find_any _ _ (T n) (S n) s hs _ (HT.out.later hB) (HS2.out.later hB) (by have := HL.out.s n; omega) (by have := HL.out.t n; omega) (HL.out.z n) i ok HF.out).mono ?_
    rintro en W3 ⟨rfl, g3⟩
    go_wp2
    go_ret2
    exact ⟨rfl, hB.trans (g3.below.mono hB.size)⟩
set_option maxRecDepth 100000 in
set_option maxHeartbeats 2000000 in
theorem name_any (a b : Nat → Value) (T : Nat → List ByteArray) (S : Nat → List Int) (w : World) (h : DSl w a b T S) (hL : DLim T S) (k i : Int) (r : ByteArray) (e' : Int) (hr : NameR hsh T S k i r e') :
    Calls Try.prog 25 #[.agg (dcs a b), .int .i64 k, .int .i64 i] w fun en w' => en = .returned (.tuple #[.string r, .int .i64 e']) ∧ Below w.heap.size w w' := by
  have ha : ∀ k, ∃ o m c, a k = .slice o m c := fun k => by obtain ⟨o, c, e, _⟩ := (h k).1.mshape; exact ⟨o, _, c, e⟩
  have hb : ∀ k, ∃ o m c, b k = .slice o m c := fun k => by obtain ⟨o, c, e, _⟩ := (h k).2.mshape; exact ⟨o, _, c, e⟩
  have HS := Lib.hid h
  have HL := Lib.hid hL
  clear h hL
  obtain ⟨v, e, hv⟩ := tabR_ex hsh T S a b k
  have hcall := fun W g => tableOf_any a b T S W (HS.out.gr (g : Gr w W)) HL.out k v e hv
  simp only [dcs]
  go_enter Try.func25, Try.ntmps25
  go_wp2_with fail
  refine (hcall _ (Gr.alloc _ _)).mono ?_
  rintro en W2 ⟨rfl, g2⟩
  have B2 := Lib.hid ((Gr.alloc w (.cells #[a 0, b 0, a 1, b 1, a 2, b 2, a 3, b 3, a 4, b 4] 28)).below.trans (g2.mono (by simp)))
  clear g2 hcall
  rcases hv with ⟨hg, rfl, rfl⟩ | ⟨hg, hk, rfl, rfl⟩ | ⟨hg, n, hn, rfl, rfl, rfl⟩
  · obtain ⟨rfl, rfl⟩ : r = ⟨#[]⟩ ∧ e' = 160 := by
      rcases hr with ⟨_, h⟩ | ⟨h, _⟩ | ⟨h, _⟩
      · exact h
      · exact (hg h).elim
      · exact (hg h).elim
    clear hr hg
    go_wp2
    go_ret2
    exact ⟨rfl, B2.out.trans ((Gr.alloc _ _).below.mono B2.out.size)⟩
  · obtain ⟨rfl, rfl⟩ : r = ⟨#[]⟩ ∧ e' = 2 := by
      rcases hr with ⟨h, _⟩ | ⟨_, _, h⟩ | ⟨_, n, h1, h2, _⟩
      · exact (h hg).elim
      · exact h
      · exact (hk (by omega)).elim
    clear hr hg hk
    go_wp2
    go_ret2
    exact ⟨rfl, B2.out.trans ((Gr.alloc _ _).below.mono B2.out.size)⟩
  · have hF : TextR (T n) (S n) i r e' := by
      rcases hr with ⟨h, _⟩ | ⟨_, h, _⟩ | ⟨_, m, h1, h2, h3⟩
      · exact (h hg).elim
      · exact (h (by omega)).elim
      · obtain rfl : m = n := by omega
        rcases h3 with h3 | h3
        · exact .inr (.inl ⟨hg.good _ hn, h3⟩)
        · exact .inr (.inr ⟨hg.good _ hn, h3⟩)
    obtain ⟨oa, ma, ca, ea⟩ := ha n
    obtain ⟨ob, mb, cb, eb⟩ := hb n
    have hT := (HS.out n).1
    have hS := (HS.out n).2
    rw [ea] at hT ⊢
    rw [eb] at hS ⊢
    have HT := Lib.hid hT
    have HS2 := Lib.hid hS
    have HF := Lib.hid hF
    clear hr hg hF hT hS
    go_wp2_with fail
    have hB : Below w.heap.size w (W2.alloc (.cells #[.slice oa ma ca, .slice ob mb cb] 25)) := B2.out.trans ((Gr.alloc _ _).below.mono B2.out.size)
    refine (texts_any _ _ (T n) (S n) _ (HT.out.later hB) (HS2.out.later hB) (by have := HL.out.s n; omega) (by have := HL.out.t n; omega) (HL.out.z n) i r e' HF.out).mono ?_
    rintro en W3 ⟨rfl, g3⟩
    go_wp2
    go_ret2
    exact ⟨rfl, hB.trans (g3.below.mono hB.size)⟩
set_option maxRecDepth 100000 in
set_option maxHeartbeats 2000000 in
theorem names_any (a b : Nat → Value) (T : Nat → List ByteArray) (S : Nat → List Int) (w : World) (h : DSl w a b T S) (hL : DLim T S) (k : Int) (l : List ByteArray) (hr : NamesR hsh T S k l) :
    Calls Try.prog 21 #[.agg (dcs a b), .int .i64 k] w fun en w' => ∃ v', en = .returned v' ∧ Ow 9 w.heap.size w' v' (l.map Value.string) ∧ Below w.heap.size w w' := by
  have ha : ∀ k, ∃ o m c, a k = .slice o m c := fun k => by obtain ⟨o, c, e, _⟩ := (h k).1.mshape; exact ⟨o, _, c, e⟩
  have hb : ∀ k, ∃ o m c, b k = .slice o m c := fun k => by obtain ⟨o, c, e, _⟩ := (h k).2.mshape; exact ⟨o, _, c, e⟩
  have HS := Lib.hid h
  have HL := Lib.hid hL
  clear h hL
  obtain ⟨v, e, hv⟩ := tabR_ex hsh T S a b k
  have hcall := fun W g => tableOf_any a b T S W (HS.out.gr (g : Gr w W)) HL.out k v e hv
  simp only [dcs]
  go_enter Try.func21, Try.ntmps21
  go_wp2_with fail
  refine (hcall _ (Gr.alloc _ _)).mono ?_
  rintro en W2 ⟨rfl, g2⟩
  have B2 := Lib.hid ((Gr.alloc w (.cells #[a 0, b 0, a 1, b 1, a 2, b 2, a 3, b 3, a 4, b 4] 28)).below.trans (g2.mono (by simp)))
  clear g2 hcall
  rcases hv with ⟨hg, rfl, rfl⟩ | ⟨hg, hk, rfl, rfl⟩ | ⟨hg, n, hn, rfl, rfl, rfl⟩
  · obtain rfl : l = [] := by
      rcases hr with ⟨h, _⟩ | ⟨_, h⟩
      · exact (hg h).elim
      · exact h
    clear hr hg
    go_wp2
    go_ret
    exact ⟨_, rfl, Ow.nil _ _ _, B2.out.trans ((Gr.alloc _ _).below.mono B2.out.size)⟩
  · obtain rfl : l = [] := by
      rcases hr with ⟨_, n, h1, h2, _⟩ | ⟨_, h⟩
      · exact (hk (by omega)).elim
      · exact h
    clear hr hg hk
    go_wp2
    go_ret
    exact ⟨_, rfl, Ow.nil _ _ _, B2.out.trans ((Gr.alloc _ _).below.mono B2.out.size)⟩
  · obtain rfl : l = T n := by
      rcases hr with ⟨_, m, h1, h2, h3⟩ | ⟨h, _⟩
      · obtain rfl : m = n := by omega
        exact h3
      · exact (h ⟨hg, by omega, by omega⟩).elim
    obtain ⟨oa, ca, ea, _⟩ := (HS.out n).1.mshape
    obtain ⟨ob, mb, cb, eb⟩ := hb n
    have hT := (HS.out n).1
    rw [ea] at hT ⊢
    rw [eb]
    have HT := Lib.hid hT
    clear hr hg hT
    go_wp2_with fail
    have hB : Below w.heap.size w (W2.alloc (.cells #[.slice oa (T n).length ca, .slice ob mb cb] 25)) := B2.out.trans ((Gr.alloc _ _).below.mono B2.out.size)
    have ha2 := sl_arg (HT.out.later hB)
    refine (clones_any _ _ _ ((T n).map Value.string) _ ha2.2 (by have := HL.out.t n; omega) (by intro y hy; obtain ⟨x, _, rfl⟩ := List.mem_map.1 hy; rfl) ha2.1).mono ?_
    rintro en W3 ⟨v', rfl, ho, g3⟩
    go_wp2
    go_ret
    exact ⟨v', rfl, ho.mono hB.size, hB.trans (g3.mono hB.size)⟩
end Go.Proofs.Ytmghbejbdkoehaa


/- dict.Same. -/
namespace Go.Proofs.Kit
open Go.RowKit
/-- What lies while two dictionaries are held against each other. -/
structure SJ (tD tB : TypeId) (w : World) (a b c d : Nat → Value) (W : World) : Prop where
  k0 : Blk W w.heap.size (dcs a b) tD
  k1 : Blk W (w.heap.size + 1) (dcs c d) tD
  k2 : Blk W (w.heap.size + 2) #[.bool false] tB
  kx : Blk W (w.heap.size + 3) (dcs a b) tD
  low : Below w.heap.size w W
section
variable {tD tB : TypeId} {w : World} {a b c d : Nat → Value} {W W' : World}
theorem SJ.aside {D : Nat} (h : SJ tD tB w a b c d W) (ha : Aside D W W') (hD : w.heap.size ≤ D) : SJ tD tB w a b c d W' :=
  ⟨ha.blk h.k0, ha.blk h.k1, ha.blk h.k2, ha.blk h.kx, ha.below h.low hD (Nat.le_refl _)⟩
theorem SJ.later (h : SJ tD tB w a b c d W) (g : Below W.heap.size W W') : SJ tD tB w a b c d W' := ⟨h.k0.later g, h.k1.later g, h.k2.later g, h.kx.later g, h.low.trans (g.mono h.low.size)⟩
theorem SJ.set (h : SJ tD tB w a b c d W) : SJ tD tB w a b c d (W.setCell ⟨w.heap.size + 2, 0, none⟩ (.bool false)) :=
  ⟨h.k0.other (by simp) _, h.k1.other (by simp) _, h.k2.set 0 _, h.kx.other (by simp) _, h.low.setCell (by simp) _⟩
end
theorem Blk.putD {w : World} {b D : Nat} {vs : Array Value} {t : TypeId} {x : Option (List Deferred)} (h : Blk w b vs t) (o : Obj) (hD : w.heap[D]? = some (.deferred x)) : Blk (w.putObj D o) b vs t := by
  have hne : b ≠ D := by
    rintro rfl
    have h' : w.heap[b]? = _ := h
    rw [hD] at h'
    cases h'
  exact (World.putObj_heap_other hne).trans h
theorem Sl.below' {w W : World} {v : Value} {l : List Value} (h : Sl w v l) (g : Below w.heap.size w W) : Sl W v l := h.later g
end Go.Proofs.Kit
namespace Go.Proofs.Ytmghbejbdkoehaa
open Go.RowKit Go.Proofs.Kit Go.Shelf
attribute [local go_sem] Oper.semAt_some

set_option maxRecDepth 100000 in
set_option maxHeartbeats 4000000 in
theorem dsame_in (a b c d : Nat → Value) (T T' : Nat → List ByteArray) (S S' : Nat → List Int) (w : World) (h : DSl w a b T S) (h' : DSl w c d T' S') (r : Bool) (hr : r = true ↔ ∀ k, k < 5 → T k = T' k) :
    CallsIn Fence.wide 6 Try.prog 14 #[.agg (dcs a b), .agg (dcs c d)] w fun e w' => e = .returned (.bool r) ∧ Below w.heap.size w w' := by
  have HS := Lib.hid h
  have HS' := Lib.hid h'
  have HR := Lib.hid hr
  have ha : ∀ k, ∃ o m c, a k = .slice o m c := fun k => by obtain ⟨o, c, e, _⟩ := (h k).1.mshape; exact ⟨o, _, c, e⟩
  have hb : ∀ k, ∃ o m c, b k = .slice o m c := fun k => by obtain ⟨o, c, e, _⟩ := (h k).2.mshape; exact ⟨o, _, c, e⟩
  have HT1 := Lib.hid (fun bx => tables1_in 5 (by decide) bx a b ha hb)
  clear h h' hr ha hb
  simp only [dcs]
  refine callsIn_of_wp_marks Try.func14 rfl trivial ?_ rfl
  simp only [Try.ntmps14, List.size_toArray, List.length_cons, List.length_nil, Nat.reduceAdd, Nat.reduceSub, Array.replicate_succ, Array.replicate_zero, List.push_toArray, List.append_toArray, List.nil_append, List.cons_append]
  refine wpIn_wide.2 ?_
  go_wp2_with (go_at_call 40; refine (tables_any a b _).mono ?_; rintro e w' ⟨rfl, rfl⟩)
  rename_i K hK
  obtain ⟨W0, hW0⟩ : ∃ W0, W0 = ((((w.alloc (.cells (dcs a b) 28)).alloc (.cells (dcs c d) 28)).alloc (.cells #[.bool false] 4)).alloc (.cells (dcs a b) 28)) := ⟨_, rfl⟩
  have I0 : SJ 28 4 w a b c d W0 := by
    refine ⟨?_, ?_, ?_, ?_, ?_⟩ <;> rw [hW0]
    · exact (((Blk.new w _ _).alloc _).alloc _).alloc _
    · have := ((Blk.new (w.alloc (.cells (dcs a b) 28)) (dcs c d) 28).alloc (.cells #[.bool false] 4)).alloc (.cells (dcs a b) 28); simpa using this
    · have := (Blk.new ((w.alloc (.cells (dcs a b) 28)).alloc (.cells (dcs c d) 28)) #[.bool false] 4).alloc (.cells (dcs a b) 28); simpa using this
    · have := Blk.new (((w.alloc (.cells (dcs a b) 28)).alloc (.cells (dcs c d) 28)).alloc (.cells #[.bool false] 4)) (dcs a b) 28; simpa using this
    · exact ((Gr.alloc _ _).trans ((Gr.alloc _ _).trans ((Gr.alloc _ _).trans (Gr.alloc _ _)))).below
  have e0 : ((((w.alloc (.cells #[a 0, b 0, a 1, b 1, a 2, b 2, a 3, b 3, a 4, b 4] 28)).alloc (.cells #[c 0, d 0, c 1, d 1, c 2, d 2, c 3, d 3, c 4, d 4] 28)).alloc (.cells #[.bool false] 4)).alloc (.cells (dcs a b) 28)) = W0 := by rw [hW0]; rfl
  rw [e0]
  clear e0 hW0
  have hseq := HT1.out (w.heap.size + 3)
  have HI0 := Lib.hid I0
  have hw1 : w.heap.size ≤ W0.heap.size := I0.low.size
  clear I0 HT1
  refine (wpIn_wide (n := 6)).1 ?_
  refine rangeH (α := Nat) rfl (by decide) (gf := 63) (lb := #[.pointer (some ⟨w.heap.size + 3, 0, none⟩)]) rfl trivial (enters_of Try.func63 (by kernel_rfl) rfl) hseq (fun _ => rfl)
    (fun pre W => SJ 28 4 w a b c d W ∧ ∀ k, k < pre.length → T k = T' k)
    (fun x pre W => x = .ret ∧ SJ 28 4 w a b c d W ∧ ¬ ∀ k, k < 5 → T k = T' k)
    (fun pre X X' h ha => ⟨h.1.aside ha hw1, h.2⟩) (fun x pre X X' h ha => ⟨h.1, h.2.1.aside ha hw1, h.2.2⟩) (fun pre X h => h.1.kx) (fun pre X X' h hb => ⟨h.1.later hb, h.2⟩) ⟨HI0.out, by simp⟩
    (fun x r => { tmps := #[.agg #[a 0, b 0, a 1, b 1, a 2, b 2, a 3, b 3, a 4, b 4], .agg #[c 0, d 0, c 1, d 1, c 2, d 2, c 3, d 3, c 4, d 4], .pointer (some ⟨w.heap.size, 0, none⟩), .pointer (some ⟨w.heap.size + 1, 0, none⟩), .pointer (some ⟨w.heap.size + 1 + 1, 0, none⟩), .int .i64 (x : Int), .pointer (some ⟨r, 0, none⟩), .agg #[a 0, b 0, a 1, b 1, a 2, b 2, a 3, b 3, a 4, b 4], .func (.func 63) #[] #[.pointer (some ⟨w.heap.size + 1 + 1 + 1, 0, none⟩)], .int .i64 (x : Int), .agg #[a x, b x], undef, undef, undef, undef, undef, undef, undef, undef, undef], defers := [] })
    (fun x r W => Blk W r #[a x, b x] 25) (fun x r X X' h ha => ha.blk h) ?assign ?body ?done ?stop
  case assign =>
    intro l x W K hK
    obtain ⟨oa, ca, ea, _⟩ := (HS.out x).1.mshape
    obtain ⟨ob, cb, eb, _⟩ := (HS.out x).2.mshape
    simp only [ea, eb] at hK ⊢
    gi_wp2
    exact hK _ _ (Gr.alloc _ _).below (Nat.le_refl _) (Blk.new _ _ _)
  case body =>
    rintro lp pre k r W ⟨hI, hall⟩ hlen ⟨rfl, hk⟩ hn hR
    simp only [List.length_range] at hall
    have hmix := mixed
    obtain ⟨oa, ca, ea, _⟩ := (HS.out k).1.mshape
    obtain ⟨ob, cb, eb, _⟩ := (HS.out k).2.mshape
    obtain ⟨oc, cc, ec, _⟩ := (HS'.out k).1.mshape
    have hT := ((HS.out k).1).later hI.low
    have hT' := ((HS'.out k).1).later hI.low
    have d0 : W.cell? ⟨w.heap.size + 1, k * 2, none⟩ = some (c k) := (hI.k1.cell _).trans (dcs_fst c d hk)
    have hk' : (k : Int) < 5 := by omega
    rw [ea] at hT
    rw [ec] at hT' d0
    simp only [ea, eb] at hR ⊢
    have c0 := hR.cell 0
    have e2 := hI.k2.cell 0
    have f2 := hI.k2.frozen 0
    have l2 := hI.k2.lt
    simp only [List.getElem?_toArray, List.getElem?_cons_zero] at c0 e2
    have hcall : ∀ m : Nat, CallsIn Fence.wide (4 - 1) Try.prog 22 #[.slice oa (T k).length ca, .slice oc (T' k).length cc] (W.drewN m) fun e w' => e = .returned (.bool (decide (T k = T' k))) ∧ ∃ q, w' = (W.drewN m).drewN q := fun m =>
      callsIn_wide.2 (equals_sl _ _ (T k) (T' k) _ (hT.gr (Gr.drewN _ _)) (hT'.gr (Gr.drewN _ _)))
    have HI := Lib.hid hI
    have HALL := Lib.hid hall
    have HN := Lib.hid hn
    have HCALL := Lib.hid hcall
    clear hI hall hn hT hT' hcall hlen hR
    gi_wp2_with fail
    refine wpIn_region_quiet_round rfl (by kernel_rfl) (by kernel_rfl) (by kernel_rfl) ?_
    repeat (gi_big_quiet_step (fail))
    refine BigFrame.wpQuietIn_want (fun _ _ _ _ => trivial) rfl ?_
    intro K0 hK0
    gi_big_quiet_op
    gi_big_quiet_call ((gi_at_call 22; exact CallsIn.quiet_of (HCALL.out _)))
    repeat (gi_big_quiet_step (fail))
    refine wpQuietIn_nil ?_
    intro _ hw'
    obtain ⟨nq, rfl⟩ := hw'
    have I2 := HI.out.later (Gr.drewN W nq).below
    have K2 := Keep2.of_below (Gr.drewN W nq).below HN.out
    have n2 := HN.out.below (Gr.drewN W nq).below
    have hne := n2.blk I2.k2
    by_cases hTT : T k = T' k
    · rw [decide_eq_true hTT]
      gi_wp2_with fail
      refine ⟨K2, I2, fun i hi => ?_⟩
      rw [range_snoc, List.length_range] at hi
      by_cases hik : i < k
      · exact HALL.out i hik
      · obtain rfl : i = k := by omega
        exact hTT
    · rw [decide_eq_false hTT]
      gi_wp2_with fail
      exact ⟨K2.setCell hne.1 hne.2 _, rfl, I2.set, fun e => hTT (e k hk)⟩
  case done =>
    rintro D xs W rfl ⟨hI, hall⟩ hD hdef
    simp only [List.length_range] at hall
    obtain rfl : r = true := HR.out.2 hall
    have e2 := hI.k2.cell 0
    have f2 := hI.k2.frozen 0
    have l2 := hI.k2.lt
    simp only [List.getElem?_toArray, List.getElem?_cons_zero] at e2
    have hk2 := hI.k2.set 0 (.bool true)
    have HI := Lib.hid hI
    have HD : Hid ((W.setCell ⟨w.heap.size + 2, 0, none⟩ (.bool true)).heap[D]? = some (.deferred (some []))) := Lib.hid ((Below.heap_setCell _ _ _ _ (by have := hI.k2.lt; intro e; rw [e] at hdef; have hh : W.heap[w.heap.size + 2]? = _ := hI.k2; rw [hh] at hdef; cases hdef)).trans hdef)
    have C0 : ((W.setCell ⟨w.heap.size + 2, 0, none⟩ (.bool true)).putObj D (.deferred none)).cell? ⟨w.heap.size + 1 + 1, 0, none⟩ = some (.bool true) := (hk2.putD _ HD.out).cell 0
    clear hI hall hdef hseq hk2
    refine hK _ _ ?_
    go_wp2
    refine ⟨by simp, .inl ⟨_, _, rfl, run_takeDeferred (w := W.setCell ⟨w.heap.size + 2, 0, none⟩ (.bool true)) HD.out, ?_⟩⟩
    exact ⟨.bool true, by simp [results, Try.results14, go_sem, C0], rfl, (HI.out.low.setCell (by simp) _).trans (below_put' _ _ (by omega))⟩
  case stop =>
    rintro D x pre W - ⟨rfl, hI, hno⟩ hD hdef
    obtain rfl : r = false := bF HR.out hno
    have C0 : (W.putObj D (.deferred none)).cell? ⟨w.heap.size + 1 + 1, 0, none⟩ = some (.bool false) := (hI.k2.putD _ hdef).cell 0
    have HI := Lib.hid hI
    have HD := Lib.hid hdef
    clear hI hno hdef hseq
    gi_wp2
    refine ⟨by simp, .inl ⟨_, _, rfl, run_takeDeferred (w := W) HD.out, ?_⟩⟩
    exact ⟨.bool false, by simp [results, Try.results14, go_sem, C0], rfl, HI.out.low.trans (below_put' _ _ (by omega))⟩
theorem dsame_any (a b c d : Nat → Value) (T T' : Nat → List ByteArray) (S S' : Nat → List Int) (w : World) (h : DSl w a b T S) (h' : DSl w c d T' S') (r : Bool) (hr : r = true ↔ ∀ k, k < 5 → T k = T' k) :
    Calls Try.prog 14 #[.agg (dcs a b), .agg (dcs c d)] w fun e w' => e = .returned (.bool r) ∧ Below w.heap.size w w' := callsIn_wide.1 (dsame_in a b c d T T' S S' w h h' r hr)
end Go.Proofs.Ytmghbejbdkoehaa

