/- The reader's steps: need, cut, number. -/
import Derived.Test.YtdjcdhkdmgkdfaaC3
import Derived.Deep.QuietTactic
import Derived.BigQuiet
namespace Go.Proofs.Ytdjcdhkdmgkdfaa
open Go.RowKit Go.Proofs.Kit Go.Shelf

/-- How a step is left whose fault is c. -/
abbrev fault (c : Int) : Ending := .panicked [{ v := .iface 74 (.int .i64 c), recovered := false }]
/-- The reader at r stands at place p of these bytes. -/
structure Rdr (w : World) (r : Nat) (bv : Value) (bs : List Int) (p : Nat) : Prop where
  blk : Blk w r #[bv, .int .i64 (p : Int)] 62
  seg : Seg .u8 w bv bs
  byt : Byt bs
  ne : ∀ b, bv.ownBlock = some b → b ≠ r
  le : p ≤ bs.length
  bd : bs.length ≤ 1000000000
/-- What a step comes to. -/
def Stp {α : Type} (r : Nat) (bv : Value) (bs : List Int) (w : World) (R : Except Int (α × Nat)) (G : α → Value → World → Prop) (e : Ending) (w' : World) : Prop :=
  But r w w' ∧ ((∃ x p v, R = .ok (x, p) ∧ e = .returned v ∧ G x v w' ∧ Rdr w' r bv bs p) ∨ (∃ c, R = .error c ∧ e = fault c))

theorem Rdr.moved {w w' : World} {r p q : Nat} {bv : Value} {bs : List Int} (h : Rdr w r bv bs p) (hb : But r w w') (hk : Blk w' r #[bv, .int .i64 (q : Int)] 62) (hq : q ≤ bs.length) : Rdr w' r bv bs q :=
  ⟨hk, hb.seg h.seg h.ne, h.byt, h.ne, hq, h.bd⟩
theorem Rdr.later {w w' : World} {r p : Nat} {bv : Value} {bs : List Int} (h : Rdr w r bv bs p) (hb : Below w.heap.size w w') : Rdr w' r bv bs p :=
  ⟨h.blk.later hb, h.seg.later hb, h.byt, h.ne, h.le, h.bd⟩

/-- So many bytes must be there. -/
def rdNeed (bs : List Int) (p many : Nat) : Except Int (Unit × Nat) := if bs.length - p < many then .error 120 else .ok ((), p)
def rdCut (bs : List Int) (p many : Nat) : Except Int (List Int × Nat) := if bs.length - p < many then .error 120 else .ok ((bs.drop p).take many, p + many)

set_option maxHeartbeats 1000000 in
theorem need_ok (r p n c many : Nat) (o : Option Addr) (w : World) (hb : Blk w r #[.slice o n c, .int .i64 (p : Int)] 62) (hp : p ≤ n) (hm : n ≤ 9223372036854775807) (h : many ≤ n - p) :
    Calls Try.prog 39 #[.pointer (some ⟨r, 0, none⟩), .int .u64 (many : Int)] w fun e w' => e = .returned (.tuple #[]) ∧ Below w.heap.size w w' := by
  have c0 := hb.cell 0
  have c1 := hb.cell 1
  simp only [List.getElem?_toArray, List.getElem?_cons_zero, List.getElem?_cons_succ] at c0 c1
  have hlt := hb.lt
  go_enter Try.func39, Try.ntmps39
  go_wp2
  go_quiet (fail)
  go_wp2
  go_end0
  exact ⟨rfl, below_drN (Below.refl _ _) _⟩
set_option maxHeartbeats 1000000 in
theorem need_no (r p n c many : Nat) (o : Option Addr) (w : World) (hb : Blk w r #[.slice o n c, .int .i64 (p : Int)] 62) (hp : p ≤ n) (hm : n ≤ 9223372036854775807) (h : n - p < many) :
    Calls Try.prog 39 #[.pointer (some ⟨r, 0, none⟩), .int .u64 (many : Int)] w fun e w' => e = fault 120 ∧ Below w.heap.size w w' := by
  have c0 := hb.cell 0
  have c1 := hb.cell 1
  simp only [List.getElem?_toArray, List.getElem?_cons_zero, List.getElem?_cons_succ] at c0 c1
  have hlt := hb.lt
  go_enter Try.func39, Try.ntmps39
  go_wp2
  go_quiet (fail)
  go_wp2
  exact bodyPost_panic rfl ⟨rfl, below_drN (Below.refl _ _) _⟩

set_option maxHeartbeats 1000000 in
theorem cut_pos (r p n c many b f : Nat) (w : World) (hb : Blk w r #[.slice (some ⟨b, f, none⟩) n c, .int .i64 (p : Int)] 62) (hp : p ≤ n) (hc : n ≤ c) (hm : c ≤ 9223372036854775807) (h : many ≤ n - p) (h1 : 1 ≤ many) :
    Calls Try.prog 41 #[.pointer (some ⟨r, 0, none⟩), .int .u64 (many : Int)] w fun e w' => e = .returned (.slice (some ⟨b, f + p, none⟩) many many) ∧ Blk w' r #[.slice (some ⟨b, f, none⟩) n c, .int .i64 ((p : Int) + (many : Int))] 62 ∧ But r w w' := by
  have hlt := hb.lt
  go_enter Try.func41, Try.ntmps41
  go_wp2_with fail
  refine (need_ok r p n c many _ _ hb (by omega) (by omega) (by omega)).mono ?_
  rintro e w1 ⟨rfl, hb1⟩
  have k1 := hb.later hb1
  have c0 := k1.cell 0
  have c1 := k1.cell 1
  have f1 := k1.frozen 1
  simp only [List.getElem?_toArray, List.getElem?_cons_zero, List.getElem?_cons_succ] at c0 c1
  have hlt1 := k1.lt
  go_wp2
  have k2 := k1.set 1 (.int .i64 ((p : Int) + (many : Int)))
  have hB2 : But r w (w1.setCell ⟨r, 1, none⟩ (.int .i64 ((p : Int) + (many : Int)))) := (But.of_below hb1).set 1 _
  obtain ⟨w2, hw2⟩ : ∃ w2, w2 = w1.setCell ⟨r, 1, none⟩ (.int .i64 ((p : Int) + (many : Int))) := ⟨_, rfl⟩
  rw [← hw2] at k2 hB2 ⊢
  clear hw2 c0 c1 f1
  have c0 := k2.cell 0
  have c1 := k2.cell 1
  have hlt2 := k2.lt
  simp at c0 c1
  go_quiet (fail)
  go_wp2
  go_ret
  exact ⟨by first | rfl | simp, k2.drewN _, hB2.drewN _⟩
set_option maxHeartbeats 1000000 in
theorem cut_zero (r p n c b f : Nat) (w : World) (hb : Blk w r #[.slice (some ⟨b, f, none⟩) n c, .int .i64 (p : Int)] 62) (hp : p ≤ n) (hc : n ≤ c) (hm : c ≤ 9223372036854775807) :
    Calls Try.prog 41 #[.pointer (some ⟨r, 0, none⟩), .int .u64 0] w fun e w' => e = .returned (.slice (some ⟨b, f, none⟩) 0 0) ∧ Blk w' r #[.slice (some ⟨b, f, none⟩) n c, .int .i64 (p : Int)] 62 ∧ But r w w' := by
  have hlt := hb.lt
  go_enter Try.func41, Try.ntmps41
  go_wp2_with fail
  refine (need_ok r p n c 0 _ _ hb (by omega) (by omega) (by omega)).mono ?_
  rintro e w1 ⟨rfl, hb1⟩
  have k1 := hb.later hb1
  have c0 := k1.cell 0
  have c1 := k1.cell 1
  have f1 := k1.frozen 1
  simp only [List.getElem?_toArray, List.getElem?_cons_zero, List.getElem?_cons_succ] at c0 c1
  have hlt1 := k1.lt
  go_wp2
  have k2 := k1.set 1 (.int .i64 ((p : Int)))
  have hB2 : But r w (w1.setCell ⟨r, 1, none⟩ (.int .i64 ((p : Int)))) := (But.of_below hb1).set 1 _
  obtain ⟨w2, hw2⟩ : ∃ w2, w2 = w1.setCell ⟨r, 1, none⟩ (.int .i64 ((p : Int))) := ⟨_, rfl⟩
  rw [← hw2] at k2 hB2 ⊢
  clear hw2 c0 c1 f1
  have c0 := k2.cell 0
  have c1 := k2.cell 1
  have hlt2 := k2.lt
  simp at c0 c1
  go_quiet (fail)
  go_wp2
  go_ret
  exact ⟨by first | rfl | simp, k2.drewN _, hB2.drewN _⟩
set_option maxHeartbeats 1000000 in
theorem cut_none (r : Nat) (w : World) (hb : Blk w r #[.slice none 0 0, .int .i64 0] 62) :
    Calls Try.prog 41 #[.pointer (some ⟨r, 0, none⟩), .int .u64 0] w fun e w' => e = .returned (.slice none 0 0) ∧ Blk w' r #[.slice none 0 0, .int .i64 0] 62 ∧ But r w w' := by
  have hlt := hb.lt
  go_enter Try.func41, Try.ntmps41
  go_wp2_with fail
  refine (need_ok r 0 0 0 0 _ _ hb (by omega) (by omega) (by omega)).mono ?_
  rintro e w1 ⟨rfl, hb1⟩
  have k1 := hb.later hb1
  have c0 := k1.cell 0
  have c1 := k1.cell 1
  have f1 := k1.frozen 1
  simp only [List.getElem?_toArray, List.getElem?_cons_zero, List.getElem?_cons_succ] at c0 c1
  have hlt1 := k1.lt
  go_wp2
  have k2 := k1.set 1 (.int .i64 (0))
  have hB2 : But r w (w1.setCell ⟨r, 1, none⟩ (.int .i64 (0))) := (But.of_below hb1).set 1 _
  obtain ⟨w2, hw2⟩ : ∃ w2, w2 = w1.setCell ⟨r, 1, none⟩ (.int .i64 (0)) := ⟨_, rfl⟩
  rw [← hw2] at k2 hB2 ⊢
  clear hw2 c0 c1 f1
  have c0 := k2.cell 0
  have c1 := k2.cell 1
  have hlt2 := k2.lt
  simp at c0 c1
  go_quiet (fail)
  go_wp2
  go_ret
  exact ⟨by first | rfl | simp, k2.drewN _, hB2.drewN _⟩
set_option maxHeartbeats 1000000 in
theorem cut_no (r p n c many : Nat) (o : Option Addr) (w : World) (hb : Blk w r #[.slice o n c, .int .i64 (p : Int)] 62) (hp : p ≤ n) (hm : n ≤ 9223372036854775807) (h : n - p < many) :
    Calls Try.prog 41 #[.pointer (some ⟨r, 0, none⟩), .int .u64 (many : Int)] w fun e w' => e = fault 120 ∧ Below w.heap.size w w' := by
  go_enter Try.func41, Try.ntmps41
  go_wp2_with fail
  refine (need_no r p n c many _ _ hb hp (by omega) h).mono ?_
  rintro e w1 ⟨rfl, hb1⟩
  exact bodyPost_panic rfl ⟨rfl, hb1⟩

/-- A part that was cut out: it lies in other memory than the reader's. -/
def Part (r : Nat) (l : List Int) (v : Value) (w : World) : Prop := Seg .u8 w v l ∧ ∀ b, v.ownBlock = some b → b ≠ r
theorem cut_any (r p many : Nat) (bv : Value) (bs : List Int) (w : World) (h : Rdr w r bv bs p) :
    Calls Try.prog 41 #[.pointer (some ⟨r, 0, none⟩), .int .u64 (many : Int)] w (Stp r bv bs w (rdCut bs p many) (Part r)) := by
  unfold rdCut
  by_cases hm : bs.length - p < many
  · rw [if_pos hm]
    obtain ⟨o, c, rfl, hc, hc2, _⟩ := h.seg.shape
    exact (cut_no r p _ c many o w h.blk h.le (by omega) hm).mono fun e w' ⟨he, hb⟩ => ⟨.of_below hb, .inr ⟨120, rfl, he⟩⟩
  · rw [if_neg hm]
    have hle := h.le
    by_cases h0 : many = 0
    · subst h0
      rcases h.seg.2 with ⟨rfl, rfl⟩ | ⟨b, f, c, rfl, h2, h3, h4, h5⟩
      · obtain rfl : p = 0 := by simpa using h.le
        exact (cut_none r w h.blk).mono fun e w' ⟨he, hk, hb⟩ => ⟨hb, .inl ⟨_, _, _, rfl, he, ⟨by simpa using Seg.nil _ _, by simp [Value.ownBlock]⟩, h.moved hb hk (by simp)⟩⟩
      · refine (cut_zero r p _ c b f w h.blk h.le h2 h3).mono fun e w' ⟨he, hk, hb⟩ => ⟨hb, .inl ⟨_, _, _, rfl, he, ⟨?_, fun g hg => h.ne g (by simpa [Value.ownBlock] using hg)⟩, h.moved hb hk hle⟩⟩
        refine ⟨by simp, .inr ⟨b, f, 0, by simp, by simp, by simp, Nat.lt_of_lt_of_le h4 hb.size, fun i hi => ?_⟩⟩
        simp at hi
    · rcases h.seg.2 with ⟨rfl, rfl⟩ | ⟨b, f, c, rfl, h2, h3, h4, h5⟩
      · simp at hm; omega
      · refine (cut_pos r p _ c many b f w h.blk h.le h2 h3 (by omega) (by omega)).mono fun e w' ⟨he, hk, hb⟩ => ⟨hb, .inl ⟨_, _, _, rfl, he, ⟨?_, fun g hg => h.ne g (by simpa [Value.ownBlock] using hg)⟩, h.moved hb (by simpa using hk) (by omega)⟩⟩
        have hl : ((bs.drop p).take many).length = many := by simp; omega
        refine ⟨by omega, .inr ⟨b, f + p, many, by rw [hl], by omega, by omega, Nat.lt_of_lt_of_le h4 hb.size, fun i hi => ?_⟩⟩
        have hi' : p + i < bs.length := by omega
        have := h5 (p + i) hi'
        rw [Nat.add_assoc, World.cell?_of_block (a := ⟨b, f + (p + i), none⟩) (hb.same b (h.ne b rfl) h4), this]
        simp
end Go.Proofs.Ytdjcdhkdmgkdfaa
