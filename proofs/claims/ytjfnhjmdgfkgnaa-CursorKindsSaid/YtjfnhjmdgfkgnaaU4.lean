/- trie.branches: the branches of a trie, told with their leaves. -/
import Derived.Test.YtjfnhjmdgfkgnaaU3
import Derived.Test.YtjfnhjmdgfkgnaaKitB
import Derived.Stop.RegionWithIn
namespace Go.Proofs.Kit
open Go.RowKit
/-- A part of a slice, with no room behind its end. -/
def sub3 : Value → Nat → Nat → Value
  | .slice (some ⟨b, off, x⟩) _ _, f, t => .slice (some ⟨b, off + f, x⟩) (t - f) (t - f)
  | v, _, _ => v
/-- What a branch is told as. -/
abbrev encL (vl : Value) (x : Br) : Array Value := #[.int .u64 x.1, sub3 vl x.2.1.toNat x.2.2.toNat]
/-- What the iterator reads. -/
def KT (t : TypeId) (bt : Nat) (vb vl : Value) (bs : List Br) (lv : List Int) (X : World) : Prop := Blk X bt #[vb, vl] t ∧ SegR X vb bs ∧ Seg .u64 X vl lv
theorem KT.later {t : TypeId} {bt : Nat} {vb vl : Value} {bs : List Br} {lv : List Int} {X X' : World} (h : KT t bt vb vl bs lv X) (hb : Below X.heap.size X X') : KT t bt vb vl bs lv X' := ⟨h.1.later hb, h.2.1.later hb, h.2.2.later hb⟩
theorem Blk.c3 {w : World} {b : Nat} {x y z : Value} {t : TypeId} (h : Blk w b #[x, y, z] t) : w.cell? ⟨b, 0, none⟩ = some x ∧ w.cell? ⟨b, 1, none⟩ = some y ∧ w.cell? ⟨b, 2, none⟩ = some z ∧ b < w.heap.size := ⟨h.cell 0, h.cell 1, h.cell 2, h.lt⟩
/-- How a yield may end, as one way. -/
def YE (A C : World → Prop) (bb : Bool) (W : World) : Prop := if bb = true then A W else C W
theorem yield_or {A C : World → Prop} {e : Ending} {W : World} (h : (e = .returned (.bool true) ∧ A W) ∨ (e = .returned (.bool false) ∧ C W)) : ∃ bb, e = .returned (.bool bb) ∧ YE A C bb W := by
  rcases h with ⟨h, h'⟩ | ⟨h, h'⟩
  · exact ⟨true, h, h'⟩
  · exact ⟨false, h, h'⟩
theorem Seg.lvs {w : World} {vl : Value} {lv : List Int} (h : Seg .u64 w vl lv) {x : Br} (h0 : 0 ≤ x.2.1) (h1 : x.2.1 < x.2.2) (h2 : x.2.2 ≤ lv.length) : Seg .u64 w (sub3 vl x.2.1.toNat x.2.2.toNat) (lvs lv x) := by
  have hl : (Kit.lvs lv x).length = x.2.2.toNat - x.2.1.toNat := by unfold Kit.lvs; simp; omega
  rcases h.2 with ⟨rfl, rfl⟩ | ⟨b, off, cap, rfl, h2, h3, h4, h5⟩
  · simp at h2; omega
  · refine ⟨by have := h.1; omega, .inr ⟨b, off + x.2.1.toNat, x.2.2.toNat - x.2.1.toNat, by rw [hl]; rfl, by omega, by omega, h4, fun i hi => ?_⟩⟩
    have := h5 (x.2.1.toNat + i) (by omega)
    rw [Nat.add_assoc, this]
    simp only [Kit.lvs, List.getElem_take, List.getElem_drop]
end Go.Proofs.Kit
namespace Go.Proofs.Ytjfnhjmdgfkgnaa
open Go.RowKit Go.Proofs.Kit Go.Shelf
attribute [local go_sem] Oper.semAt_some
set_option maxRecDepth 100000 in
set_option maxHeartbeats 4000000 in
theorem branches1_in (n : Nat) (hn : 1 ≤ n) (bt : Nat) (vb vl : Value) (bs : List Br) (lv : List Int) (hc : Chd lv.length bs) (hbs : bs.length ≤ 1000000000) :
    SeqG Fence.wide n Try.prog 120 #[.pointer (some ⟨bt, 0, none⟩)] (encL vl) (fun xs => xs = bs) (fun _ => True) bs.length (KT 25 bt vb vl bs lv) (fun x => x ∈ bs) := by
  intro l J Jx W hJK hJB hY h0
  have hmix := mixed
  have hK0 := hJK _ _ h0
  obtain ⟨ob, cb, rfl, qb, qb', hb⟩ := hK0.2.1.shape
  obtain ⟨ol, cl, rfl, ql, ql', hl⟩ := hK0.2.2.shape
  obtain ⟨m, hm⟩ : ∃ m, m = bs.length := ⟨_, rfl⟩
  obtain ⟨q, hq⟩ : ∃ q, q = lv.length := ⟨_, rfl⟩
  rw [← hm] at qb hbs hJK hY
  rw [← hq] at ql hc hJK hY
  have HJK := Lib.hid hJK
  have HJB := Lib.hid hJB
  have HY := Lib.hid hY
  have HM := Lib.hid hm
  have HQ := Lib.hid hq
  have HC := Lib.hid hc
  clear hJK hJB hY hm hq hK0 hb hl hc
  refine callsIn_wide.2 ?_
  go_enter Try.func120, Try.ntmps120
  have hK := HJK.out _ _ h0
  have c1 := hK.1.cell 0
  have hbt := hK.1.lt
  simp only [List.getElem?_toArray, List.getElem?_cons_zero] at c1
  clear hK
  go_wp2
  clear c1 hbt
  go_loopg [8] m (fun kx i wr => ∃ k : Nat, i = .int .i64 (k : Int) ∧ k ≤ m ∧ m - k ≤ kx ∧ Hid (J (bs.take k) wr))
  case atStart => exact ⟨0, rfl, Nat.zero_le _, by omega, Lib.hid (by simpa using h0)⟩
  case round =>
    obtain ⟨k, rfl, hk, hkx, HJ⟩ := hrel
    have hK := HJK.out _ _ HJ.out
    have hbt := hK.1.lt
    obtain ⟨c1, c2⟩ := hK.1.two.1, hK.1.two.2.1
    by_cases hlt : k < m
    · have hk1 : k < bs.length := by have := HM.out; omega
      obtain ⟨b, f, rfl, _, _, _, hbl, hcells⟩ := hK.2.1.has hk1
      obtain ⟨d1, d2, d3⟩ := hcells k hk1
      have hx0 := HC.out.br hk1
      obtain ⟨s, t, hs, ht⟩ : ∃ s t : Nat, bs[k].2.1 = (s : Int) ∧ bs[k].2.2 = (t : Int) := ⟨bs[k].2.1.toNat, bs[k].2.2.toNat, by omega, by omega⟩
      obtain ⟨hst, htq⟩ : s < t ∧ t ≤ q := by omega
      obtain ⟨bl, fl, rfl⟩ : ∃ bl fl, ol = some ⟨bl, fl, none⟩ := by
        rcases hK.2.2.2 with ⟨e, e'⟩ | ⟨b', f', c', e, _⟩
        · have := HQ.out
          rw [e'] at this
          simp at this
          omega
        · injection e with e _ _
          exact ⟨b', f', e⟩
      rw [hs] at d2
      rw [ht] at d3
      obtain ⟨a, ha⟩ : ∃ a, a = bs[k].1 := ⟨_, rfl⟩
      rw [← ha] at d1
      have hts : bs.take (k + 1) = bs.take k ++ [((a, (s : Int), (t : Int)) : Br)] := by
        rw [List.take_succ_eq_append_getElem hk1, ha, ← hs, ← ht]
      have hmem : ((a, (s : Int), (t : Int)) : Br) ∈ bs := by rw [ha, ← hs, ← ht]; exact List.getElem_mem hk1
      have hlen : (bs.take k).length < m := by rw [List.length_take]; omega
      have HTS := Lib.hid hts
      have HMEM := Lib.hid hmem
      have HLEN := Lib.hid hlen
      clear hts hmem hlen ha hs ht hx0 hcells hK
      have i1 : (k : Int) < (m : Int) := by omega
      go_wp2
      refine (wpIn_wide (n := n)).1 ?_
      gi_region_with (first
        | (refine ⟨trivial, (callsIn_wide.2 (leaves_any _ bl fl q cl s t a _ hst htq ql ql')).mono ?_⟩; rintro e w2 ⟨rfl, g2⟩; obtain ⟨fn, tmps, assign, body, hy, hRd⟩ := HY.out (bs.take k) (a, (s : Int), (t : Int)) w2 (HJB.out _ _ _ HJ.out (((Below.refl _ _).alloc (Nat.le_refl _) _).drew.trans (g2.below.mono (by simp)))) HLEN.out HMEM.out; dsimp only [encL, sub3] at hy; simp only [Int.toNat_natCast] at hy; obtain ⟨z1, _, _, z2⟩ := ((Blk.new wr #[.int .u64 a, .int .i64 (s : Int), .int .i64 (t : Int)] 68).drew.later g2.below).c3; clear g2)
        | ((with_reducible refine hRd.mono ?_); rintro e W3 hJ3; obtain ⟨bb, rfl, hJ4⟩ := yield_or hJ3; have HJ4 := Lib.hid hJ4; clear hJ4 hJ3))
      all_goals
        cases bb
        · have hJ5 : Jx (bs.take k ++ [(a, (s : Int), (t : Int))]) W3 := HJ4.out
          gi_wp2_with fail
          go_wp2
          exact bodyPost_ret (v := .tuple #[]) (by simp [results, Try.results120]) rfl ⟨⟨_, rfl⟩, .inr ⟨_, trivial, hJ5⟩⟩
        · have hJ5 : J (bs.take k ++ [(a, (s : Int), (t : Int))]) W3 := HJ4.out
          gi_wp2_with fail
          go_wp2
          go_roundg (m - (k + 1))
          case measure => omega
          case rel => exact ⟨k + 1, by go_num, by omega, by omega, Lib.hid (by rw [HTS.out]; exact hJ5)⟩
    · have : bs.take k = bs := List.take_of_length_le (by have := HM.out; omega)
      have HE := Lib.hid this
      clear this hK
      go_wp2
      go_end0
      exact ⟨⟨_, rfl⟩, .inl ⟨_, rfl, by have := HJ.out; rw [HE.out] at this; exact this⟩⟩
end Go.Proofs.Ytjfnhjmdgfkgnaa

