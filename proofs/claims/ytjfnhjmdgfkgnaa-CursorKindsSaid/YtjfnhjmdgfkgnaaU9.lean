/- trie's looks: place, top, branch, leaf. -/
import Derived.Test.YtjfnhjmdgfkgnaaU8
import Derived.Deep.RegionWith
namespace Go.Proofs.Kit
open Go.RowKit
section
variable {w : World} {b : Nat} {x y z : Value} {t : TypeId}
theorem Blk.set2 (h : Blk w b #[x, y] t) (a c : Value) : Blk ((w.setCell ⟨b, 0, none⟩ a).setCell ⟨b, 1, none⟩ c) b #[a, c] t := by simpa using (h.set 0 a).set 1 c
theorem Blk.set3 (h : Blk w b #[x, y, z] t) (a c d : Value) : Blk (((w.setCell ⟨b, 0, none⟩ a).setCell ⟨b, 1, none⟩ c).setCell ⟨b, 2, none⟩ d) b #[a, c, d] t := by simpa using ((h.set 0 a).set 1 c).set 2 d
theorem Blk.z3 (h : Blk w b #[x, y, z] t) : w.frozen? ⟨b, 0, none⟩ = false ∧ w.frozen? ⟨b, 1, none⟩ = false ∧ w.frozen? ⟨b, 2, none⟩ = false := ⟨h.frozen 0, h.frozen 1, h.frozen 2⟩
theorem Blk.z2 (h : Blk w b #[x, y] t) : w.frozen? ⟨b, 0, none⟩ = false ∧ w.frozen? ⟨b, 1, none⟩ = false := ⟨h.frozen 0, h.frozen 1⟩
end
theorem Owns.oth {k : IntKind} {t : TypeId} {B : Nat} {w : World} {v : Value} {l : List Int} (h : Owns k t B w v l) {g : Nat} (hg : v.ownBlock ≠ some g) (j : Nat) (u : Value) : Owns k t B (w.setCell ⟨g, j, none⟩ u) v l := h.same fun g' hg' => Below.heap_setCell _ _ _ _ (fun e => hg (by rw [hg', e]))
theorem Owns.shapeN {k : IntKind} {t : TypeId} {B : Nat} {w : World} {v : Value} {l : List Int} (h : Owns k t B w v l) {n : Nat} (hn : l.length = n) : ∃ o c, v = .slice o n c := by
  obtain ⟨o, c, e⟩ := h.shape
  exact ⟨o, c, by rw [e, hn]⟩
end Go.Proofs.Kit
namespace Go.Proofs.Ytjfnhjmdgfkgnaa
open Go.RowKit Go.Proofs.Kit
/-- A look: a trie, and a row. -/
abbrev LV (ob : Option Addr) (m cb : Nat) (ol : Option Addr) (q cl : Nat) (orw : Option Addr) (n cr : Nat) : Value := .agg #[.slice ob m cb, .slice ol q cl, .slice orw n cr]
set_option maxRecDepth 100000 in
set_option maxHeartbeats 1000000 in
theorem place_look (ob : Option Addr) (m cb : Nat) (ol : Option Addr) (q cl : Nat) (orw : Option Addr) (n cr : Nat) (row : List Int) (key : Int) (w : World) (h : Seg .u64 w (.slice orw n cr) row) (hn : row.length = n) (hr : Rises row) (hl : n ≤ 1000000) :
    Calls Try.prog 60 #[LV ob m cb ol q cl orw n cr, .int .u64 key] w fun e w' => e = .returned (.tuple #[.int .i64 (plcU row key : Nat), .bool (decide (key ∈ row))]) ∧ Gr w w' := by
  have HS := Lib.hid h
  have HN := Lib.hid hn
  have HR := Lib.hid hr
  clear h hn hr
  have hmf : ∀ (fn : Fn) (first cap : Array Value) (w : World), (Instr.makeFunc fn first cap).run Try.prog w = .ok (.func fn first cap) w := fun _ _ _ _ => rfl
  go_enter Try.func60, Try.ntmps60
  go_wp2_with fail
  obtain ⟨W0, hW0⟩ : ∃ W0, W0 = (w.alloc (.cells #[.slice ob m cb, .slice ol q cl, .slice orw n cr] 92)).alloc (.cells #[.int .u64 key] 32) := ⟨_, rfl⟩
  have G0 : Gr w W0 := by rw [hW0]; exact (Gr.alloc _ _).trans (Gr.alloc _ _)
  have b0 : Blk W0 w.heap.size #[.slice ob m cb, .slice ol q cl, .slice orw n cr] 92 := by rw [hW0]; exact (Blk.new _ _ _).alloc _
  have b1 : Blk W0 (w.heap.size + 1) #[.int .u64 key] 32 := by rw [hW0]; have := Blk.new (w.alloc (.cells #[.slice ob m cb, .slice ol q cl, .slice orw n cr] 92)) #[.int .u64 key] 32; simpa using this
  rw [← hW0]
  clear hW0
  refine (halved_any w.heap.size (w.heap.size + 1) (.slice ob m cb) (.slice ol q cl) (.slice orw n cr) row key n W0 HN.out hl HR.out ⟨b0, b1, HS.out.later G0.below⟩).mono ?_
  rintro e w2 ⟨rfl, g2⟩
  clear b0 b1
  go_wp2
  go_ret2
  exact ⟨rfl, G0.trans g2⟩
set_option maxRecDepth 100000 in
set_option maxHeartbeats 4000000 in
theorem top_any (ob : Option Addr) (m cb : Nat) (ol : Option Addr) (q cl : Nat) (bs : List Br) (w : World) (hb : SegR w (.slice ob m cb) bs) (hm : bs.length = m) (hl : m ≤ 1000000) :
    Calls Try.prog 59 #[.agg #[.slice ob m cb, .slice ol q cl]] w fun e w' => ∃ o c, e = .returned (LV ob m cb ol q cl o m c) ∧ Owns .u64 32 w.heap.size w' (.slice o m c) (bs.map (·.1)) ∧ Below w.heap.size w w' := by
  have HB := Lib.hid hb
  have HM := Lib.hid hm
  clear hb hm
  go_enter Try.func59, Try.ntmps59
  go_wp2_with fail
  obtain ⟨W0, hW0⟩ : ∃ W0, W0 = (w.alloc (.cells #[.slice ob m cb, .slice ol q cl] 25)).alloc (.cells #[.slice none 0 0, .slice none 0 0, .slice none 0 0] 92) := ⟨_, rfl⟩
  have G0 : Gr w W0 := by rw [hW0]; exact (Gr.alloc _ _).trans (Gr.alloc _ _)
  have b0 : Blk W0 w.heap.size #[.slice ob m cb, .slice ol q cl] 25 := by rw [hW0]; exact (Blk.new _ _ _).alloc _
  have b1 : Blk W0 (w.heap.size + 1) #[.slice none 0 0, .slice none 0 0, .slice none 0 0] 92 := by rw [hW0]; have := Blk.new (w.alloc (.cells #[.slice ob m cb, .slice ol q cl] 25)) #[.slice none 0 0, .slice none 0 0, .slice none 0 0] 92; simpa using this
  have HG := Lib.hid (gathBu_any W0.drew.heap.size (.slice none 0 0) [] (.slice ob m cb) bs W0.drew (Owns.nil _ _ _ _) (Nat.le_refl _) (fun W h => (HB.out.later G0.below).drew.later h) (by have := HM.out; simp; omega))
  rw [← hW0]
  obtain ⟨c1, c2, l0⟩ := b0.two
  have HB0 := Lib.hid b0
  have HB1 := Lib.hid b1
  clear hW0 b0 b1
  go_region_with (go_at_call 92; refine HG.out.mono ?_; rintro e w2 ⟨v2, rfl, hO2, hb2⟩; obtain ⟨o2, c2, rfl⟩ := hO2.shapeN (n := m) (by have := HM.out; simp; omega); obtain ⟨d1, d2, dl⟩ := (HB0.out.drew.later hb2).two; obtain ⟨d3, d4, d5, dl2⟩ := (HB1.out.drew.later hb2).c3; obtain ⟨z0, z1, z2⟩ := (HB1.out.drew.later hb2).z3; have HR := Lib.hid ((HB1.out.drew.later hb2).set3 (.slice ob m cb) (.slice ol q cl) (.slice o2 m c2)); have HO := Lib.hid hO2; have HNB := Lib.hid (HB1.out.drew.later hb2); have HLO := Lib.hid (G0.below.trans ((Below.refl _ W0).drew.trans (hb2.mono (by have := G0.below.size; simpa using this)))); clear hO2 hb2)
  all_goals
    go_wp2
    obtain ⟨r0, r1, r2, _⟩ := HR.out.c3
    refine bodyPost_ret (v := LV ob m cb ol q cl o2 m c2) (by simp [results, Try.results59, go_sem, r0, r1, r2]) rfl ⟨o2, c2, rfl, ?_, ?_⟩
    · have ho := HO.out
      rw [List.nil_append] at ho
      exact ((((ho.mono (by have := G0.below.size; simpa using this)).oth (HO.out.ne_blk HNB.out (by decide)) 0 _).oth (HO.out.ne_blk HNB.out (by decide)) 1 _).oth (HO.out.ne_blk HNB.out (by decide)) 2 _)
    · exact ((HLO.out.setCell (by simp) _).setCell (by simp) _).setCell (by simp) _
end Go.Proofs.Ytjfnhjmdgfkgnaa

