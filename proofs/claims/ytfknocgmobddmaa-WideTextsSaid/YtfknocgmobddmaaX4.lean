import Derived.Test.YtfknocgmobddmaaX3
namespace Go.Proofs.Ytfknocgmobddmaa
open Go.RowKit Go.Proofs.Kit Go.Shelf

/-- What stands while the last statement of wakes is done. -/
def WS (w : World) (b1 b2 b3 : Nat) (w' : World) : Prop :=
  Blk w' b1 #[.int .u64 1, .int .u64 0] 26 ∧ Blk w' b2 #[.int .u64 0, .int .u64 6148914691236517205] 26 ∧ Blk w' b3 #[.int .u64 9223372036854775808, .int .u64 0] 26 ∧ Below w.heap.size w w'
theorem WS.cells {w w' : World} {b1 b2 b3 : Nat} (h : WS w b1 b2 b3 w') : w'.cell? ⟨b1, 0, none⟩ = some (.int .u64 1) ∧ w'.cell? ⟨b1, 1, none⟩ = some (.int .u64 0) ∧ w'.cell? ⟨b2, 0, none⟩ = some (.int .u64 0) ∧ w'.cell? ⟨b2, 1, none⟩ = some (.int .u64 6148914691236517205) ∧ w'.cell? ⟨b3, 0, none⟩ = some (.int .u64 9223372036854775808) ∧ w'.cell? ⟨b3, 1, none⟩ = some (.int .u64 0) ∧ WS w b1 b2 b3 w' :=
  ⟨h.1.cell 0, h.1.cell 1, h.2.1.cell 0, h.2.1.cell 1, h.2.2.1.cell 0, h.2.2.1.cell 1, h⟩
theorem WS.drew {w w' : World} {b1 b2 b3 : Nat} (h : WS w b1 b2 b3 w') : WS w b1 b2 b3 w'.drew := ⟨h.1, h.2.1, h.2.2.1, h.2.2.2.drew⟩
theorem WS.later {w w' w'' : World} {b1 b2 b3 : Nat} (h : WS w b1 b2 b3 w') (hb : Below w'.heap.size w' w'') : WS w b1 b2 b3 w'' :=
  ⟨h.1.later hb, h.2.1.later hb, h.2.2.1.later hb, h.2.2.2.trans (hb.mono h.2.2.2.size)⟩

set_option maxRecDepth 100000 in
set_option maxHeartbeats 1000000 in
theorem wakes_true (w : World) : Calls Try.prog 9 #[] w fun e w' => e = .returned (.bool true) ∧ Below w.heap.size w w' := by
  go_enter Try.func9, Try.ntmps9
  go_wp2_with fail
  refine (of_any _ _).mono ?_
  rintro e w1 ⟨rfl, h1⟩
  go_wp2_with fail
  refine (of_any _ _).mono ?_
  rintro e w2 ⟨rfl, h2⟩
  go_wp2_with fail
  refine (c_add1 _).mono ?_
  rintro e w3 ⟨rfl, h3⟩
  have B3 : Below w.heap.size w w3 := (h1.trans (h2.mono h1.size)).trans (h3.mono (Nat.le_trans h1.size h2.size))
  go_wp2_with fail
  refine (of_any _ _).mono ?_
  rintro e w4 ⟨rfl, h4⟩
  go_wp2_with fail
  refine (c_add2 _).mono ?_
  rintro e w5 ⟨rfl, h5⟩
  have b1 : Blk w5 w3.heap.size #[.int .u64 1, .int .u64 0] 26 := ((Blk.new _ _ _).later h4).later h5
  have B5 : Below w.heap.size w w5 := by
    have := (B3.alloc B3.size (.cells #[.int .u64 1, .int .u64 0] 26))
    exact (this.trans (h4.mono this.size)).trans (h5.mono (Nat.le_trans this.size h4.size))
  clear h1 h2 h3 h4 h5
  have c0 := b1.cell 0
  have c1 := b1.cell 1
  have hl1 := b1.lt
  simp only [List.getElem?_toArray, List.getElem?_cons_zero, List.getElem?_cons_succ] at c0 c1
  go_wp2_with fail
  refine (c_div _).mono ?_
  rintro e w6 ⟨rfl, h6⟩
  have b1 := (b1.alloc (.cells #[.int .u64 0, .int .u64 0] 26)).later h6
  have B6 : Below w.heap.size w w6 := by
    have := (B5.alloc B5.size (.cells #[.int .u64 0, .int .u64 0] 26))
    exact (this.trans (h6.mono this.size))
  clear h6 c0 c1
  go_wp2_with fail
  refine (of_any _ _).mono ?_
  rintro e w7 ⟨rfl, h7⟩
  go_wp2_with fail
  refine (c_pow _).mono ?_
  rintro e w8 ⟨rfl, h8⟩
  have b2 : Blk w8 w6.heap.size #[.int .u64 0, .int .u64 6148914691236517205] 26 := ((Blk.new _ _ _).later h7).later h8
  have b1 := ((b1.alloc _).later h7).later h8
  have B8 : Below w.heap.size w w8 := by
    have := (B6.alloc B6.size (.cells #[.int .u64 0, .int .u64 6148914691236517205] 26))
    exact (this.trans (h7.mono this.size)).trans (h8.mono (Nat.le_trans this.size h7.size))
  clear h7 h8
  go_wp2_with fail
  have hws : WS w w3.heap.size w6.heap.size w8.heap.size (w8.alloc (.cells #[.int .u64 9223372036854775808, .int .u64 0] 26)) := ⟨b1.alloc _, b2.alloc _, Blk.new _ _ _, B8.alloc B8.size _⟩
  obtain ⟨w9, hw9⟩ : ∃ w9, w9 = w8.alloc (.cells #[.int .u64 9223372036854775808, .int .u64 0] 26) := ⟨_, rfl⟩
  rw [← hw9] at hws ⊢
  clear hw9 b1 b2 B3 B5 B6 B8 hl1
  generalize w3.heap.size = n1 at *
  generalize w6.heap.size = n2 at *
  generalize w8.heap.size = n3 at *
  go_region_held3 (fun w' => w'.cell? ⟨n1, 0, none⟩ = some (.int .u64 1) ∧ w'.cell? ⟨n1, 1, none⟩ = some (.int .u64 0) ∧ w'.cell? ⟨n2, 0, none⟩ = some (.int .u64 0) ∧ w'.cell? ⟨n2, 1, none⟩ = some (.int .u64 6148914691236517205) ∧ w'.cell? ⟨n3, 0, none⟩ = some (.int .u64 9223372036854775808) ∧ w'.cell? ⟨n3, 1, none⟩ = some (.int .u64 0) ∧ WS w n1 n2 n3 w')
    (first | exact hws.cells | exact hws.drew.cells)
    (first | (go_at_call 19; refine (of_any _ _).mono ?_; rintro e w' ⟨rfl, hbl⟩; have hws := hws.drew.later hbl) | (go_at_call 25; refine (c_text _).mono ?_; rintro e w' ⟨rfl, hbl⟩; have hws := hws.later hbl))
  go_wp2
  go_ret
  exact ⟨rfl, hws.2.2.2⟩
end Go.Proofs.Ytfknocgmobddmaa
