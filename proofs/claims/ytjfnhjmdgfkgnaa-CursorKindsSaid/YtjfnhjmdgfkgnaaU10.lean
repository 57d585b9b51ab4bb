/- trie's looks: branch, leaf. -/
import Derived.Test.YtjfnhjmdgfkgnaaU9
import Derived.Deep.RegionHeld3
namespace Go.Proofs.Kit
open Go.RowKit
/-- What branch's last region reads. -/
structure BH (tT tl : TypeId) (w : World) (B : Nat) (ob : Option Addr) (m cb : Nat) (ol : Option Addr) (q cl : Nat) (orw : Option Addr) (n cr : Nat) (b f i : Nat) (x : Br) (W : World) : Prop where
  k0 : Blk W B #[.slice ob m cb, .slice ol q cl, .slice orw n cr] tl
  k1 : ∃ y0 y1 y2, Blk W (B + 1) #[y0, y1, y2] tl
  d1 : W.cell? ⟨b, f + i * 3, none⟩ = some (.int .u64 x.1)
  d2 : W.cell? ⟨b, f + i * 3 + 1, none⟩ = some (.int .i64 x.2.1)
  d3 : W.cell? ⟨b, f + i * 3 + 2, none⟩ = some (.int .i64 x.2.2)
  lb : b < W.heap.size
  lw : b < w.heap.size
  hB : w.heap.size ≤ B
  low : Below w.heap.size w W
section
variable {tT tl : TypeId} {w W W' : World} {B : Nat} {ob : Option Addr} {m cb : Nat} {ol : Option Addr} {q cl : Nat} {orw : Option Addr} {n cr b f i : Nat} {x : Br}
theorem BH.later (h : BH tT tl w B ob m cb ol q cl orw n cr b f i x W) (hb : Below W.heap.size W W') : BH tT tl w B ob m cb ol q cl orw n cr b f i x W' :=
  ⟨h.k0.later hb, let ⟨y0, y1, y2, h1⟩ := h.k1; ⟨y0, y1, y2, h1.later hb⟩, (hb.cell (p := ⟨b, f + i * 3, none⟩) h.lb).trans h.d1, (hb.cell (p := ⟨b, f + i * 3 + 1, none⟩) h.lb).trans h.d2, (hb.cell (p := ⟨b, f + i * 3 + 2, none⟩) h.lb).trans h.d3, Nat.lt_of_lt_of_le h.lb hb.size, h.lw, h.hB, below_later h.low hb⟩
theorem BH.drew (h : BH tT tl w B ob m cb ol q cl orw n cr b f i x W) : BH tT tl w B ob m cb ol q cl orw n cr b f i x W.drew := h.later (Below.refl _ _).drew
theorem BH.st (h : BH tT tl w B ob m cb ol q cl orw n cr b f i x W) (u0 u1 u2 : Value) : BH tT tl w B ob m cb ol q cl orw n cr b f i x (((W.setCell ⟨B + 1, 0, none⟩ u0).setCell ⟨B + 1, 1, none⟩ u1).setCell ⟨B + 1, 2, none⟩ u2) := by
  obtain ⟨y0, y1, y2, h1⟩ := h.k1
  have hl := h.lw
  have hB := h.hB
  have hc : ∀ j, (((W.setCell ⟨B + 1, 0, none⟩ u0).setCell ⟨B + 1, 1, none⟩ u1).setCell ⟨B + 1, 2, none⟩ u2).cell? ⟨b, j, none⟩ = W.cell? ⟨b, j, none⟩ := fun j =>
    World.cell?_of_block (a := ⟨b, j, none⟩) (((Below.heap_setCell _ _ _ _ (by simp; omega)).trans (Below.heap_setCell _ _ _ _ (by simp; omega))).trans (Below.heap_setCell _ _ _ _ (by simp; omega)))
  exact ⟨((h.k0.other (by simp) _).other (by simp) _).other (by simp) _, ⟨u0, u1, u2, h1.set3 u0 u1 u2⟩, (hc _).trans h.d1, (hc _).trans h.d2, (hc _).trans h.d3, by simpa using h.lb, hl, hB, ((h.low.setCell (by simp; omega) _).setCell (by simp; omega) _).setCell (by simp; omega) _⟩
theorem BH.all (h : BH tT tl w B ob m cb ol q cl orw n cr b f i x W) : (W.cell? ⟨B, 0, none⟩ = some (.slice ob m cb) ∧ W.cell? ⟨B, 1, none⟩ = some (.slice ol q cl) ∧ W.cell? ⟨b, f + i * 3, none⟩ = some (.int .u64 x.1) ∧ W.cell? ⟨b, f + i * 3 + 1, none⟩ = some (.int .i64 x.2.1) ∧ W.cell? ⟨b, f + i * 3 + 2, none⟩ = some (.int .i64 x.2.2)) ∧ BH tT tl w B ob m cb ol q cl orw n cr b f i x W :=
  ⟨⟨h.k0.cell 0, h.k0.cell 1, h.d1, h.d2, h.d3⟩, h⟩
end
end Go.Proofs.Kit
namespace Go.Proofs.Ytjfnhjmdgfkgnaa
open Go.RowKit Go.Proofs.Kit
set_option maxRecDepth 100000 in
set_option maxHeartbeats 4000000 in
theorem branch_no (ob : Option Addr) (m cb : Nat) (ol : Option Addr) (q cl : Nat) (orw : Option Addr) (n cr : Nat) (row : List Int) (key : Int) (w : World) (h : Seg .u64 w (.slice orw n cr) row) (hn : row.length = n) (hr : Rises row) (hl : n ≤ 1000000) (hk : key ∉ row) :
    Calls Try.prog 83 #[LV ob m cb ol q cl orw n cr, .int .u64 key] w fun e w' => e = .returned (.tuple #[LV none 0 0 none 0 0 none 0 0, .bool false]) ∧ Below w.heap.size w w' := by
  have HP := Lib.hid (fun W (g : Gr w W) => place_look ob m cb ol q cl orw n cr row key W (h.later g.below) hn hr hl)
  rw [decide_eq_false hk] at HP
  obtain ⟨p, hp⟩ : ∃ p, p = plcU row key := ⟨_, rfl⟩
  rw [← hp] at HP
  clear h hn hr hk hp
  go_enter Try.func83, Try.ntmps83
  go_wp2_with fail
  refine (HP.out _ ((Gr.alloc _ _).trans (Gr.alloc _ _))).mono ?_
  rintro e w2 ⟨rfl, g2⟩
  have b1 : Blk w2 (w.heap.size + 1) #[.slice none 0 0, .slice none 0 0, .slice none 0 0] 92 := by
    have := (Blk.new (w.alloc (.cells #[.slice ob m cb, .slice ol q cl, .slice orw n cr] 92)) #[.slice none 0 0, .slice none 0 0, .slice none 0 0] 92).later g2.below
    simpa using this
  have G2 := ((Gr.alloc w (.cells #[.slice ob m cb, .slice ol q cl, .slice orw n cr] 92)).trans (Gr.alloc _ _)).trans g2
  obtain ⟨d0, d1, d2, dl⟩ := b1.c3
  obtain ⟨z0, z1, z2⟩ := b1.z3
  obtain ⟨r0, r1, r2, _⟩ := (b1.set3 (.slice none 0 0) (.slice none 0 0) (.slice none 0 0)).c3
  have HR := Lib.hid (And.intro r0 (And.intro r1 r2))
  clear b1 g2 r0 r1 r2
  go_wp2
  obtain ⟨r0, r1, r2⟩ := HR.out
  refine bodyPost_ret (v := .tuple #[LV none 0 0 none 0 0 none 0 0, .bool false]) (by simp [results, Try.results83, go_sem, r0, r1, r2]) rfl ⟨rfl, ((G2.below.setCell (by simp) _).setCell (by simp) _).setCell (by simp) _⟩
set_option maxRecDepth 100000 in
set_option maxHeartbeats 8000000 in
theorem branch_yes (ob : Option Addr) (m cb : Nat) (bl fl q cl : Nat) (orw : Option Addr) (n cr : Nat) (row : List Int) (key : Int) (bs : List Br) (w : World) (h : Seg .u64 w (.slice orw n cr) row) (hn : row.length = n) (hr : Rises row) (hl : n ≤ 1000000)
    (hb : SegR w (.slice ob m cb) bs) (hm : bs.length = m) (i : Nat) (hi : i < m) (hki : plcU row key = i) (hk : key ∈ row) (s t : Nat) (x1 : Int) (hx : bs[i]'(by omega) = (x1, (s : Int), (t : Int))) (h1 : s < t) (h2 : t ≤ q) (h3 : q ≤ cl) (h4 : cl ≤ 9223372036854775807) :
    Calls Try.prog 83 #[LV ob m cb (some ⟨bl, fl, none⟩) q cl orw n cr, .int .u64 key] w fun e w' => e = .returned (.tuple #[LV ob m cb (some ⟨bl, fl, none⟩) q cl (some ⟨bl, fl + s, none⟩) (t - s) (t - s), .bool true]) ∧ Below w.heap.size w w' := by
  have HP := Lib.hid (fun W (g : Gr w W) => place_look ob m cb (some ⟨bl, fl, none⟩) q cl orw n cr row key W (h.later g.below) hn hr hl)
  rw [decide_eq_true hk, hki] at HP
  obtain ⟨b, f, rfl, _, hmc, hcc, hbl, hcells⟩ := hb.has (i := i) (by omega)
  obtain ⟨e1, e2, e3⟩ := hcells i (by omega)
  rw [hx] at e1 e2 e3
  simp only at e1 e2 e3
  have HE := Lib.hid (And.intro e1 (And.intro e2 e3))
  have i1 : (i : Int) < (m : Int) := by omega
  clear h hn hr hk hki hb hm hcells hx e1 e2 e3
  go_enter Try.func83, Try.ntmps83
  go_wp2_with fail
  refine (HP.out _ ((Gr.alloc _ _).trans (Gr.alloc _ _))).mono ?_
  rintro e w2 ⟨rfl, g2⟩
  have b0 := ((Blk.new w #[.slice (some ⟨b, f, none⟩) m cb, .slice (some ⟨bl, fl, none⟩) q cl, .slice orw n cr] 92).alloc (.cells #[.slice none 0 0, .slice none 0 0, .slice none 0 0] 92)).later g2.below
  have b1 : Blk w2 (w.heap.size + 1) #[.slice none 0 0, .slice none 0 0, .slice none 0 0] 92 := by
    have := (Blk.new (w.alloc (.cells #[.slice (some ⟨b, f, none⟩) m cb, .slice (some ⟨bl, fl, none⟩) q cl, .slice orw n cr] 92)) #[.slice none 0 0, .slice none 0 0, .slice none 0 0] 92).later g2.below
    simpa using this
  have G2 := ((Gr.alloc w (.cells #[.slice (some ⟨b, f, none⟩) m cb, .slice (some ⟨bl, fl, none⟩) q cl, .slice orw n cr] 92)).trans (Gr.alloc _ _)).trans g2
  have hws : BH 25 92 w w.heap.size (some ⟨b, f, none⟩) m cb (some ⟨bl, fl, none⟩) q cl orw n cr b f i (x1, (s : Int), (t : Int)) w2 :=
    ⟨b0, ⟨_, _, _, b1⟩, (G2.cell hbl).trans HE.out.1, (G2.cell hbl).trans HE.out.2.1, (G2.cell hbl).trans HE.out.2.2, Nat.lt_of_lt_of_le hbl G2.below.size, hbl, Nat.le_refl _, G2.below⟩
  have hlb := hws.lb
  obtain ⟨⟨c0, c1, c2, c3, c4⟩, _⟩ := hws.all
  dsimp only at c2 c3 c4
  clear b0 b1 g2 G2 HP HE
  go_wp2_with fail
  go_region_held3 (fun w' => (w'.cell? ⟨w.heap.size, 0, none⟩ = some (.slice (some ⟨b, f, none⟩) m cb) ∧ w'.cell? ⟨w.heap.size, 1, none⟩ = some (.slice (some ⟨bl, fl, none⟩) q cl) ∧ w'.cell? ⟨b, f + i * 3, none⟩ = some (.int .u64 x1) ∧ w'.cell? ⟨b, f + i * 3 + 1, none⟩ = some (.int .i64 (s : Int)) ∧ w'.cell? ⟨b, f + i * 3 + 2, none⟩ = some (.int .i64 (t : Int))) ∧ BH 25 92 w w.heap.size (some ⟨b, f, none⟩) m cb (some ⟨bl, fl, none⟩) q cl orw n cr b f i (x1, (s : Int), (t : Int)) w') (first | exact hws.all | exact hws.drew.all | exact (hws.st _ _ _).all) ((go_at_call 119; (with_reducible refine (leaves_any _ bl fl q cl s t x1 _ h1 h2 h3 h4).mono ?_); rintro e w3 ⟨rfl, g3⟩; have hws := hws.drew.later g3.below; obtain ⟨y0, y1, y2, hk1⟩ := hws.k1; obtain ⟨z0, z1, z2⟩ := hk1.z3; obtain ⟨v0, v1, v2, yl⟩ := hk1.c3; have HR := Lib.hid (hk1.set3 (.slice (some ⟨b, f, none⟩) m cb) (.slice (some ⟨bl, fl, none⟩) q cl) (.slice (some ⟨bl, fl + s, none⟩) (t - s) (t - s)))))
  all_goals
    go_wp2
    obtain ⟨r0, r1, r2, _⟩ := HR.out.c3
    refine bodyPost_ret (v := .tuple #[LV (some ⟨b, f, none⟩) m cb (some ⟨bl, fl, none⟩) q cl (some ⟨bl, fl + s, none⟩) (t - s) (t - s), .bool true]) (by simp [results, Try.results83, go_sem, r0, r1, r2]) rfl ⟨rfl, (hws.st _ _ _).low⟩
set_option maxRecDepth 100000 in
set_option maxHeartbeats 4000000 in
theorem leaf_any (ob : Option Addr) (m cb : Nat) (ol : Option Addr) (q cl : Nat) (orw : Option Addr) (n cr : Nat) (row : List Int) (key : Int) (w : World) (h : Seg .u64 w (.slice orw n cr) row) (hn : row.length = n) (hr : Rises row) (hl : n ≤ 1000000) :
    Calls Try.prog 84 #[LV ob m cb ol q cl orw n cr, .int .u64 key] w fun e w' => e = .returned (.tuple #[LV ob m cb ol q cl none 0 0, .bool (decide (key ∈ row))]) ∧ Below w.heap.size w w' := by
  have HP := Lib.hid (fun W (g : Gr w W) => place_look ob m cb ol q cl orw n cr row key W (h.later g.below) hn hr hl)
  obtain ⟨p, hp⟩ : ∃ p, p = plcU row key := ⟨_, rfl⟩
  obtain ⟨K, hK⟩ : ∃ K, K = decide (key ∈ row) := ⟨_, rfl⟩
  rw [← hp, ← hK] at HP
  rw [← hK]
  clear h hn hr hp hK
  go_enter Try.func84, Try.ntmps84
  go_wp2_with fail
  refine (HP.out _ ((Gr.alloc _ _).trans (Gr.alloc _ _))).mono ?_
  rintro e w2 ⟨rfl, g2⟩
  have b0 := ((Blk.new w #[.slice ob m cb, .slice ol q cl, .slice orw n cr] 92).alloc (.cells #[.slice none 0 0, .slice none 0 0, .slice none 0 0] 92)).later g2.below
  have b1 : Blk w2 (w.heap.size + 1) #[.slice none 0 0, .slice none 0 0, .slice none 0 0] 92 := by
    have := (Blk.new (w.alloc (.cells #[.slice ob m cb, .slice ol q cl, .slice orw n cr] 92)) #[.slice none 0 0, .slice none 0 0, .slice none 0 0] 92).later g2.below
    simpa using this
  have G2 := ((Gr.alloc w (.cells #[.slice ob m cb, .slice ol q cl, .slice orw n cr] 92)).trans (Gr.alloc _ _)).trans g2
  obtain ⟨c0, c1, c2, cl0⟩ := b0.c3
  obtain ⟨d0, d1, d2, dl⟩ := b1.c3
  obtain ⟨z0, z1, z2⟩ := b1.z3
  obtain ⟨r0, r1, r2, _⟩ := (b1.set3 (.slice ob m cb) (.slice ol q cl) (.slice none 0 0)).c3
  have HR := Lib.hid (And.intro r0 (And.intro r1 r2))
  clear b0 b1 g2 r0 r1 r2
  go_wp2
  obtain ⟨r0, r1, r2⟩ := HR.out
  refine bodyPost_ret (v := .tuple #[LV ob m cb ol q cl none 0 0, .bool K]) (by simp [results, Try.results84, go_sem, r0, r1, r2]) rfl ⟨rfl, ((G2.below.setCell (by simp) _).setCell (by simp) _).setCell (by simp) _⟩
end Go.Proofs.Ytjfnhjmdgfkgnaa

