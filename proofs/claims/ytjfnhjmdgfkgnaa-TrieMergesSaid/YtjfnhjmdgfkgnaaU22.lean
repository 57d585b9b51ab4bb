/- TrieBack: its walk. -/
import Derived.Test.YtjfnhjmdgfkgnaaU21
import Derived.Deep.DeepCutAuto
import Derived.Deep.RegionHeld3
namespace Go.Proofs.Kit
open Go.RowKit
/-- A trie behind a pointer. -/
structure TP (tT tB tu : TypeId) (w0 : World) (T : Nat) (ob : Option Addr) (m cb : Nat) (ol : Option Addr) (q cl : Nat) (bs : List Br) (lv : List Int) (W : World) : Prop where
  k : Blk W T #[.slice ob m cb, .slice ol q cl] tT
  b : SegR W (.slice ob m cb) bs
  l : Seg .u64 W (.slice ol q cl) lv
section
variable {tT tB tu : TypeId} {w0 W W' : World} {T : Nat} {ob : Option Addr} {m cb : Nat} {ol : Option Addr} {q cl : Nat} {bs : List Br} {lv : List Int}
theorem TP.later (h : TP tT tB tu w0 T ob m cb ol q cl bs lv W) (hb : Below W.heap.size W W') : TP tT tB tu w0 T ob m cb ol q cl bs lv W' := ⟨h.k.later hb, h.b.later hb, h.l.later hb⟩
theorem TP.drew (h : TP tT tB tu w0 T ob m cb ol q cl bs lv W) : TP tT tB tu w0 T ob m cb ol q cl bs lv W.drew := h.later (Below.refl _ _).drew
theorem TP.alloc (h : TP tT tB tu w0 T ob m cb ol q cl bs lv W) (o : Obj) : TP tT tB tu w0 T ob m cb ol q cl bs lv (W.alloc o) := h.later ((Below.refl _ _).alloc (Nat.le_refl _) _)
end
/-- A trie as a value, of the call's own. -/
structure TO (tB tu : TypeId) (ob : Option Addr) (m cb : Nat) (ol : Option Addr) (q cl : Nat) (bs : List Br) (lv : List Int) (W : World) : Prop where
  b : OwnR tB 0 W (.slice ob m cb) bs
  l : Owns .u64 tu 0 W (.slice ol q cl) lv
section
variable {tB tu : TypeId} {W W' : World} {ob : Option Addr} {m cb : Nat} {ol : Option Addr} {q cl : Nat} {bs : List Br} {lv : List Int}
theorem TO.later (h : TO tB tu ob m cb ol q cl bs lv W) (hb : Below W.heap.size W W') : TO tB tu ob m cb ol q cl bs lv W' := ⟨h.b.later hb, h.l.later hb⟩
theorem TO.alloc (h : TO tB tu ob m cb ol q cl bs lv W) (o : Obj) : TO tB tu ob m cb ol q cl bs lv (W.alloc o) := h.later ((Below.refl _ _).alloc (Nat.le_refl _) _)
theorem TO.drew (h : TO tB tu ob m cb ol q cl bs lv W) : TO tB tu ob m cb ol q cl bs lv W.drew := h.later (Below.refl _ _).drew
theorem TO.st (h : TO tB tu ob m cb ol q cl bs lv W) {g : Nat} {vs : Array Value} {t : TypeId} (hb : Blk W g vs t) (h1 : tB ≠ t) (h2 : tu ≠ t) (u0 u1 : Value) : TO tB tu ob m cb ol q cl bs lv ((W.setCell ⟨g, 0, none⟩ u0).setCell ⟨g, 1, none⟩ u1) :=
  ⟨(h.b.oth (h.b.ne_blk hb h1) 0 u0).oth (h.b.ne_blk hb h1) 1 u1, (h.l.oth (h.l.ne_blk hb h2) 0 u0).oth (h.l.ne_blk hb h2) 1 u1⟩
end
theorem OwnP.shapeN {t : TypeId} {B : Nat} {w : World} {v : Value} {l : List Pr} (h : OwnP t B w v l) {n : Nat} (hn : n = l.length) : ∃ o c, v = .slice o n c := by
  obtain ⟨o, c, e⟩ := h.shape
  exact ⟨o, c, by rw [e, hn]⟩
theorem OwnP.st {tP : TypeId} {B : Nat} {W : World} {v : Value} {l : List Pr} (h : OwnP tP B W v l) {g : Nat} {vs : Array Value} {t : TypeId} (hb : Blk W g vs t) (h1 : tP ≠ t) (u0 u1 : Value) : OwnP tP B ((W.setCell ⟨g, 0, none⟩ u0).setCell ⟨g, 1, none⟩ u1) v l :=
  (h.oth (h.ne_blk hb h1) 0 u0).oth (h.ne_blk hb h1) 1 u1
end Go.Proofs.Kit
namespace Go.Proofs.Ytjfnhjmdgfkgnaa
open Go.RowKit Go.Proofs.Kit
theorem runOf_len {bs : List Br} {lv : List Int} (h1 : bs.length ≤ 60) (h2 : lv.length ≤ 60) : (runOf bs lv).length ≤ 10000 := by
  unfold runOf
  split
  · have := prs_len lv bs
    have h3 : bs.length * lv.length ≤ 60 * 60 := Nat.mul_le_mul h1 h2
    omega
  · simp
theorem runOf_ok {bs : List Br} {lv : List Int} (h : ok7 bs lv) : ofE (runOf bs lv) = 0 ∧ ofB (runOf bs lv) = bs ∧ ofL (runOf bs lv) = lv := by
  have hT := tri h
  have e : runOf bs lv = prs bs lv := if_pos h
  have hk : okP (prs bs lv) := ⟨hT.run, hT.len⟩
  rw [e]
  exact ⟨if_pos hk, (if_pos hk).trans hT.bof, (if_pos hk).trans hT.snd⟩
theorem runOf_no {bs : List Br} {lv : List Int} (h : ¬ ok7 bs lv) : ofE (runOf bs lv) = 0 := by
  have e : runOf bs lv = [] := if_neg h
  rw [e]
  exact if_pos ⟨Run.nil, by simp⟩
abbrev TPx := @TP 25 68 32
theorem named {P : World → Prop} {w : World} (h : P w) : ∃ w', w' = w ∧ P w' := ⟨w, rfl, h⟩
theorem equalP_true (v1 v2 : Value) (l : List Pr) (w : World) (h1 : SegP w v1 l) (h2 : SegP w v2 l) : Calls Try.prog 48 #[v1, v2] w fun e w' => e = .returned (.bool true) ∧ Below w.heap.size w w' :=
  (equalP_seg v1 v2 l l w h1 h2).mono fun _ _ ⟨h, g⟩ => ⟨by rw [h]; simp, g.below⟩
theorem equalu_true (v1 v2 : Value) (l : List Int) (w : World) (h1 : Seg .u64 w v1 l) (h2 : Seg .u64 w v2 l) : Calls Try.prog 15 #[v1, v2] w fun e w' => e = .returned (.bool true) ∧ Below w.heap.size w w' :=
  (equalu_seg v1 v2 l l w h1 h2).mono fun _ _ ⟨h, g⟩ => ⟨by rw [h]; simp, g⟩
theorem path_of_blk2 {W : World} {g : Nat} {a b : Int} {t : TypeId} (h : Blk W g #[.int .u64 a, .int .u64 b] t) : PathAt W (some ⟨g, 0, none⟩) [a, b] :=
  PathAt.of_seg (n := 2) (c := 2) (Seg.of_blk (l := [a, b]) (cap := 2) h (by simp) (by omega) rfl)
theorem path_of_blk1 {W : World} {g : Nat} {a : Int} {t : TypeId} (h : Blk W g #[.int .u64 a] t) : PathAt W (some ⟨g, 0, none⟩) [a] :=
  PathAt.of_seg (n := 1) (c := 1) (Seg.of_blk (l := [a]) (cap := 1) h (by simp) (by omega) rfl)
end Go.Proofs.Ytjfnhjmdgfkgnaa

