import Derived.Test.YtmghbejbdkoehaaMh
import Derived.Deep.QuietTactic
import Derived.BigQuiet
import Derived.WalkMore
import Derived.Deep.LoopGhost
import Derived.Laws.CopyOwn
/- The reader's steps: need, cut, number. -/
namespace Go.Proofs.Ytmghbejbdkoehaa
open Go.RowKit Go.Proofs.Kit Go.Shelf

/-- How a step is left whose fault is c. -/
abbrev fault (c : Int) : Ending := .panicked [{ v := .iface 141 (.int .i64 c), recovered := false }]
/-- The reader at r stands at place p of these bytes. -/
structure Rdr (w : World) (r : Nat) (bv : Value) (bs : List Int) (p : Nat) : Prop where
  blk : Blk w r #[bv, .int .i64 (p : Int)] 132
  seg : Seg .u8 w bv bs
  byt : Byt bs
  ne : ∀ b, bv.ownBlock = some b → b ≠ r
  le : p ≤ bs.length
  bd : bs.length ≤ 1000000000
/-- What a step comes to. -/
def Stp {α : Type} (r : Nat) (bv : Value) (bs : List Int) (w : World) (R : Except Int (α × Nat)) (G : α → Value → World → Prop) (e : Ending) (w' : World) : Prop :=
  But r w w' ∧ ((∃ x p v, R = .ok (x, p) ∧ e = .returned v ∧ G x v w' ∧ Rdr w' r bv bs p) ∨ (∃ c, R = .error c ∧ e = fault c))

theorem Rdr.moved {w w' : World} {r p q : Nat} {bv : Value} {bs : List Int} (h : Rdr w r bv bs p) (hb : But r w w') (hk : Blk w' r #[bv, .int .i64 (q : Int)] 132) (hq : q ≤ bs.length) : Rdr w' r bv bs q :=
  ⟨hk, hb.seg h.seg h.ne, h.byt, h.ne, hq, h.bd⟩
theorem Rdr.later {w w' : World} {r p : Nat} {bv : Value} {bs : List Int} (h : Rdr w r bv bs p) (hb : Below w.heap.size w w') : Rdr w' r bv bs p :=
  ⟨h.blk.later hb, h.seg.later hb, h.byt, h.ne, h.le, h.bd⟩

/-- So many bytes must be there. -/
def rdNeed (bs : List Int) (p many : Nat) : Except Int (Unit × Nat) := if bs.length - p < many then .error 120 else .ok ((), p)
def rdCut (bs : List Int) (p many : Nat) : Except Int (List Int × Nat) := if bs.length - p < many then .error 120 else .ok ((bs.drop p).take many, p + many)

set_option maxRecDepth 100000 in
set_option maxHeartbeats 1000000 in
theorem need_ok (r p n c many : Nat) (o : Option Addr) (w : World) (hb : Blk w r #[.slice o n c, .int .i64 (p : Int)] 132) (hp : p ≤ n) (hm : n ≤ 9223372036854775807) (h : many ≤ n - p) :
    Calls Try.prog 97 #[.pointer (some ⟨r, 0, none⟩), .int .u64 (many : Int)] w fun e w' => e = .returned (.tuple #[]) ∧ Below w.heap.size w w' := by
  have c0 := hb.cell 0
  have c1 := hb.cell 1
  simp only [List.getElem?_toArray, List.getElem?_cons_zero, List.getElem?_cons_succ] at c0 c1
  have hlt := hb.lt
  go_enter Try.func97, Try.ntmps97
  go_wp2
  go_quiet (fail)
  go_wp2
  go_end0
  exact ⟨rfl, below_drN (Below.refl _ _) _⟩
set_option maxRecDepth 100000 in
set_option maxHeartbeats 1000000 in
theorem need_no (r p n c many : Nat) (o : Option Addr) (w : World) (hb : Blk w r #[.slice o n c, .int .i64 (p : Int)] 132) (hp : p ≤ n) (hm : n ≤ 9223372036854775807) (h : n - p < many) :
    Calls Try.prog 97 #[.pointer (some ⟨r, 0, none⟩), .int .u64 (many : Int)] w fun e w' => e = fault 120 ∧ Below w.heap.size w w' := by
  have c0 := hb.cell 0
  have c1 := hb.cell 1
  simp only [List.getElem?_toArray, List.getElem?_cons_zero, List.getElem?_cons_succ] at c0 c1
  have hlt := hb.lt
  go_enter Try.func97, Try.ntmps97
  go_wp2
  go_quiet (fail)
  go_wp2
  exact bodyPost_panic rfl ⟨rfl, below_drN (Below.refl _ _) _⟩

set_option maxRecDepth 100000 in
set_option maxHeartbeats 1000000 in
theorem cut_pos (r p n c many b f : Nat) (w : World) (hb : Blk w r #[.slice (some ⟨b, f, none⟩) n c, .int .i64 (p : Int)] 132) (hp : p ≤ n) (hc : n ≤ c) (hm : c ≤ 9223372036854775807) (h : many ≤ n - p) (h1 : 1 ≤ many) :
    Calls Try.prog 91 #[.pointer (some ⟨r, 0, none⟩), .int .u64 (many : Int)] w fun e w' => e = .returned (.slice (some ⟨b, f + p, none⟩) many many) ∧ Blk w' r #[.slice (some ⟨b, f, none⟩) n c, .int .i64 ((p : Int) + (many : Int))] 132 ∧ But r w w' := by
  have hlt := hb.lt
  go_enter Try.func91, Try.ntmps91
  go_wp2_with fail
  refine (need_ok r p n c many _ _ hb (by omega) (by omega) (by omega)).mono ?_
  rintro e w1 ⟨rfl, hb1⟩
  have k1 := hb.later hb1
  have c0 := k1.cell 0
  have c1 := k1.cell 1
  have f1 := k1.frozen 1
  simp only [List.getElem?_toArray, List.getElem?_cons_zero, List.getElem?_cons_succ] at c0 c1
  have hlt1 := k1.lt
  go_wp2
  have k2 := k1.set 1 (.int .i64 ((p : Int) + (many : Int)))
  have hB2 : But r w (w1.setCell ⟨r, 1, none⟩ (.int .i64 ((p : Int) + (many : Int)))) := (But.of_below hb1).set 1 _
  obtain ⟨w2, hw2⟩ : ∃ w2, w2 = w1.setCell ⟨r, 1, none⟩ (.int .i64 ((p : Int) + (many : Int))) := ⟨_, rfl⟩
  rw [← hw2] at k2 hB2 ⊢
  clear hw2 c0 c1 f1
  have c0 := k2.cell 0
  have c1 := k2.cell 1
  have hlt2 := k2.lt
  simp at c0 c1
  go_quiet (fail)
  go_wp2
  go_ret
  exact ⟨by first | rfl | simp, k2.drewN _, hB2.drewN _⟩
set_option maxRecDepth 100000 in
set_option maxHeartbeats 1000000 in
theorem cut_zero (r p n c b f : Nat) (w : World) (hb : Blk w r #[.slice (some ⟨b, f, none⟩) n c, .int .i64 (p : Int)] 132) (hp : p ≤ n) (hc : n ≤ c) (hm : c ≤ 9223372036854775807) :
    Calls Try.prog 91 #[.pointer (some ⟨r, 0, none⟩), .int .u64 0] w fun e w' => e = .returned (.slice (some ⟨b, f, none⟩) 0 0) ∧ Blk w' r #[.slice (some ⟨b, f, none⟩) n c, .int .i64 (p : Int)] 132 ∧ But r w w' := by
  have hlt := hb.lt
  go_enter Try.func91, Try.ntmps91
  go_wp2_with fail
  refine (need_ok r p n c 0 _ _ hb (by omega) (by omega) (by omega)).mono ?_
  rintro e w1 ⟨rfl, hb1⟩
  have k1 := hb.later hb1
  have c0 := k1.cell 0
  have c1 := k1.cell 1
  have f1 := k1.frozen 1
  simp only [List.getElem?_toArray, List.getElem?_cons_zero, List.getElem?_cons_succ] at c0 c1
  have hlt1 := k1.lt
  go_wp2
  have k2 := k1.set 1 (.int .i64 ((p : Int)))
  have hB2 : But r w (w1.setCell ⟨r, 1, none⟩ (.int .i64 ((p : Int)))) := (But.of_below hb1).set 1 _
  obtain ⟨w2, hw2⟩ : ∃ w2, w2 = w1.setCell ⟨r, 1, none⟩ (.int .i64 ((p : Int))) := ⟨_, rfl⟩
  rw [← hw2] at k2 hB2 ⊢
  clear hw2 c0 c1 f1
  have c0 := k2.cell 0
  have c1 := k2.cell 1
  have hlt2 := k2.lt
  simp at c0 c1
  go_quiet (fail)
  go_wp2
  go_ret
  exact ⟨by first | rfl | simp, k2.drewN _, hB2.drewN _⟩
set_option maxRecDepth 100000 in
set_option maxHeartbeats 1000000 in
theorem cut_none (r : Nat) (w : World) (hb : Blk w r #[.slice none 0 0, .int .i64 0] 132) :
    Calls Try.prog 91 #[.pointer (some ⟨r, 0, none⟩), .int .u64 0] w fun e w' => e = .returned (.slice none 0 0) ∧ Blk w' r #[.slice none 0 0, .int .i64 0] 132 ∧ But r w w' := by
  have hlt := hb.lt
  go_enter Try.func91, Try.ntmps91
  go_wp2_with fail
  refine (need_ok r 0 0 0 0 _ _ hb (by omega) (by omega) (by omega)).mono ?_
  rintro e w1 ⟨rfl, hb1⟩
  have k1 := hb.later hb1
  have c0 := k1.cell 0
  have c1 := k1.cell 1
  have f1 := k1.frozen 1
  simp only [List.getElem?_toArray, List.getElem?_cons_zero, List.getElem?_cons_succ] at c0 c1
  have hlt1 := k1.lt
  go_wp2
  have k2 := k1.set 1 (.int .i64 (0))
  have hB2 : But r w (w1.setCell ⟨r, 1, none⟩ (.int .i64 (0))) := (But.of_below hb1).set 1 _
  obtain ⟨w2, hw2⟩ : ∃ w2, w2 = w1.setCell ⟨r, 1, none⟩ (.int .i64 (0)) := ⟨_, rfl⟩
  rw [← hw2] at k2 hB2 ⊢
  clear hw2 c0 c1 f1
  have c0 := k2.cell 0
  have c1 := k2.cell 1
  have hlt2 := k2.lt
  simp at c0 c1
  go_quiet (fail)
  go_wp2
  go_ret
  exact ⟨by first | rfl | simp, k2.drewN _, hB2.drewN _⟩
set_option maxRecDepth 100000 in
set_option maxHeartbeats 1000000 in
theorem cut_no (r p n c many : Nat) (o : Option Addr) (w : World) (hb : Blk w r #[.slice o n c, .int .i64 (p : Int)] 132) (hp : p ≤ n) (hm : n ≤ 9223372036854775807) (h : n - p < many) :
    Calls Try.prog 91 #[.pointer (some ⟨r, 0, none⟩), .int .u64 (many : Int)] w fun e w' => e = fault 120 ∧ Below w.heap.size w w' := by
  go_enter Try.func91, Try.ntmps91
  go_wp2_with fail
  refine (need_no r p n c many _ _ hb hp (by omega) h).mono ?_
  rintro e w1 ⟨rfl, hb1⟩
  exact bodyPost_panic rfl ⟨rfl, hb1⟩

/-- A part that was cut out: it lies in other memory than the reader's. -/
def Part (r : Nat) (l : List Int) (v : Value) (w : World) : Prop := Seg .u8 w v l ∧ ∀ b, v.ownBlock = some b → b ≠ r
theorem cut_any (r p many : Nat) (bv : Value) (bs : List Int) (w : World) (h : Rdr w r bv bs p) :
    Calls Try.prog 91 #[.pointer (some ⟨r, 0, none⟩), .int .u64 (many : Int)] w (Stp r bv bs w (rdCut bs p many) (Part r)) := by
  unfold rdCut
  by_cases hm : bs.length - p < many
  · rw [if_pos hm]
    obtain ⟨o, c, rfl, hc, hc2, _⟩ := h.seg.shape
    exact (cut_no r p _ c many o w h.blk h.le (by omega) hm).mono fun e w' ⟨he, hb⟩ => ⟨.of_below hb, .inr ⟨120, rfl, he⟩⟩
  · rw [if_neg hm]
    have hle := h.le
    by_cases h0 : many = 0
    · subst h0
      rcases h.seg.2 with ⟨rfl, rfl⟩ | ⟨b, f, c, rfl, h2, h3, h4, h5⟩
      · obtain rfl : p = 0 := by simpa using h.le
        exact (cut_none r w h.blk).mono fun e w' ⟨he, hk, hb⟩ => ⟨hb, .inl ⟨_, _, _, rfl, he, ⟨by simpa using Seg.nil _ _, by simp [Value.ownBlock]⟩, h.moved hb hk (by simp)⟩⟩
      · refine (cut_zero r p _ c b f w h.blk h.le h2 h3).mono fun e w' ⟨he, hk, hb⟩ => ⟨hb, .inl ⟨_, _, _, rfl, he, ⟨?_, fun g hg => h.ne g (by simpa [Value.ownBlock] using hg)⟩, h.moved hb hk hle⟩⟩
        refine ⟨by simp, .inr ⟨b, f, 0, by simp, by simp, by simp, Nat.lt_of_lt_of_le h4 hb.size, fun i hi => ?_⟩⟩
        simp at hi
    · rcases h.seg.2 with ⟨rfl, rfl⟩ | ⟨b, f, c, rfl, h2, h3, h4, h5⟩
      · simp at hm; omega
      · refine (cut_pos r p _ c many b f w h.blk h.le h2 h3 (by omega) (by omega)).mono fun e w' ⟨he, hk, hb⟩ => ⟨hb, .inl ⟨_, _, _, rfl, he, ⟨?_, fun g hg => h.ne g (by simpa [Value.ownBlock] using hg)⟩, h.moved hb (by simpa using hk) (by omega)⟩⟩
        have hl : ((bs.drop p).take many).length = many := by simp; omega
        refine ⟨by omega, .inr ⟨b, f + p, many, by rw [hl], by omega, by omega, Nat.lt_of_lt_of_le h4 hb.size, fun i hi => ?_⟩⟩
        have hi' : p + i < bs.length := by omega
        have := h5 (p + i) hi'
        rw [Nat.add_assoc, World.cell?_of_block (a := ⟨b, f + (p + i), none⟩) (hb.same b (h.ne b rfl) h4), this]
        simp
end Go.Proofs.Ytmghbejbdkoehaa


/- The reader's step that reads a number. -/
namespace Go.Proofs.Ytmghbejbdkoehaa
open Go.RowKit Go.Proofs.Kit Go.Shelf

theorem pow_bd {m : Nat} {y : Int} (hm : m ≤ 9) (h0 : 0 ≤ y) (h1 : y < 128) (h9 : m = 9 → y ≤ 1) : y * 2 ^ (7 * m) < 18446744073709551616 := by
  have : m = 0 ∨ m = 1 ∨ m = 2 ∨ m = 3 ∨ m = 4 ∨ m = 5 ∨ m = 6 ∨ m = 7 ∨ m = 8 ∨ m = 9 := by omega
  rcases this with rfl | rfl | rfl | rfl | rfl | rfl | rfl | rfl | rfl | rfl
  all_goals simp
  all_goals omega
theorem or_pow {m : Nat} {acc y : Int} (hm : m ≤ 9) (ha0 : 0 ≤ acc) (ha1 : acc < 2 ^ (7 * m)) (h0 : 0 ≤ y) (h1 : y < 128) (h9 : m = 9 → y ≤ 1) :
    bits .or .u64 acc (IntKind.u64.wrap (y * 2 ^ (7 * m))) = acc + y * 2 ^ (7 * m) := by
  have hb := pow_bd hm h0 h1 h9
  have hp := pow7_pos m
  have hn : 0 ≤ y * 2 ^ (7 * m) := Int.mul_nonneg h0 (by omega)
  have ha64 : acc < 18446744073709551616 := by
    have : (2 : Int) ^ (7 * m) < 18446744073709551616 := by simpa using pow_bd (m := m) (y := 1) hm (by omega) (by omega) (by omega)
    omega
  rw [IntKind.wrap_u64, Int.emod_eq_of_lt hn hb, u64_or _ _ ha0 ha64 hn hb]
  have e1 : (y * 2 ^ (7 * m)).toNat = y.toNat * 2 ^ (7 * m) := by
    have : y = (y.toNat : Int) := by omega
    rw [this]
    norm_cast
  have e2 : acc.toNat < 2 ^ (7 * m) := by
    have : ((2 ^ (7 * m) : Nat) : Int) = 2 ^ (7 * m) := by norm_cast
    omega
  rw [e1, Nat.or_comm, nat_join (7 * m) _ _ (Nat.mul_mod_left _ _) e2, ← e1]
  omega

set_option maxRecDepth 100000 in
set_option maxHeartbeats 2000000 in
theorem number_some (r p n c b f : Nat) (bs : List Int) (w : World) (hn : bs.length = n) (h : Rdr w r (.slice (some ⟨b, f, none⟩) n c) bs p) (hc : n ≤ c) (hm : c ≤ 9223372036854775807) (hb : b < w.heap.size)
    (ha : ∀ i (h : i < bs.length), w.cell? ⟨b, f + i, none⟩ = some (.int .u8 bs[i])) :
    Calls Try.prog 84 #[.pointer (some ⟨r, 0, none⟩)] w (Stp r (.slice (some ⟨b, f, none⟩) n c) bs w (rdN bs p) (fun x v _ => v = .int .u64 x)) := by
  have HN := Lib.hid hn; clear hn
  have HA := Lib.hid ha; clear ha
  have HR := Lib.hid h
  have hble := h.le
  have hbr : b ≠ r := h.ne b rfl
  clear h
  go_enter Try.func84, Try.ntmps84
  go_wp2
  go_step3
  go_wp2
  go_step3
  go_wp2
  go_loopw [3, 4, 5, 20, 23] (fun s _ i _ _ wr => ∃ (m : Nat) (acc : Int), m ≤ 9 ∧ i = .int .i64 (m : Int) ∧ s = .int .u64 acc ∧ 0 ≤ acc ∧ acc < 2 ^ (7 * m) ∧ p + m ≤ n ∧ But r w wr ∧ Blk wr r #[.slice (some ⟨b, f, none⟩) n c, .int .i64 ((p + m : Nat) : Int)] 132 ∧ Hid (rdNum 0 0 (bs.drop p) = rdNum m acc (bs.drop (p + m)))) (fun _ _ i _ _ _ => 10 - (intOf i).toNat)
  case atStart => 
    have h := HR.out
    exact ⟨0, 0, by omega, rfl, rfl, by omega, by simp, by have := HN.out; omega, But.refl _ _, by simpa using h.blk, Lib.hid (by simp)⟩
  case round =>
    obtain ⟨m, acc, hm9, rfl, rfl, ha0, ha1, hpn, hB, hk, hrd⟩ := hrel
    by_cases hend : p + m < n
    · go_wp2_with fail
      refine (cut_pos r (p + m) n c 1 b f _ hk hpn hc hm (by omega) (by omega)).mono ?_
      rintro e w1 ⟨rfl, hk1, hb1⟩
      have hql : p + m < bs.length := by have := HN.out; omega
      have hB1 := hB.trans hb1
      have d : w1.cell? ⟨b, f + (p + m), none⟩ = some (.int .u8 bs[p + m]) := (World.cell?_of_block (a := ⟨b, f + (p + m), none⟩) (hB1.same b hbr hb)).trans (HA.out _ hql)
      have hx := (HR.out.byt) _ (List.getElem_mem hql)
      have hdrop : bs.drop (p + m) = bs[p + m] :: bs.drop (p + m + 1) := List.drop_eq_getElem_cons hql
      obtain ⟨x, hx'⟩ : ∃ x, x = bs[p + m] := ⟨_, rfl⟩
      rw [← hx'] at d hx hdrop
      have HX := Lib.hid hx'; clear hx'
      have HD := Lib.hid hdrop; clear hdrop
      have hR1 : ∀ q, q = p + m + 1 → Rdr w1 r (.slice (some ⟨b, f, none⟩) n c) bs q := fun q hq => HR.out.moved hB1 (by rw [hq]; simpa using hk1) (by omega)
      have HR1 := Lib.hid hR1; clear hR1
      by_cases hl : x < 128
      · have hx128 : x % 128 = x := by omega
        by_cases hbad : (1 ≤ m ∧ x = 0) ∨ (m = 9 ∧ 1 < x)
        · have hres : rdN bs p = .error 121 := by
            unfold rdN
            rw [hrd.out, HD.out]
            simp only [rdNum]
            rw [if_pos hl, if_pos hbad]
            rfl
          have HRES := Lib.hid hres
          clear hres
          rcases hbad with ⟨g1, g2⟩ | ⟨g1, g2⟩
          · have z0 : (x == 0) = true := by simpa using g2
            clear g2 hx128
            go_wp2_with fail
            all_goals exact bodyPost_panic rfl ⟨hB1, .inr ⟨121, HRES.out, rfl⟩⟩
          · have z0 : (x == 0) = false := by simp; omega
            have t10 : ((m : Int) + 1 == 10) = true := by simp; omega
            have m9 : 8 < m := by omega
            clear g1 hx128
            go_wp2_with fail
            all_goals exact bodyPost_panic rfl ⟨hB1, .inr ⟨121, HRES.out, rfl⟩⟩
        · have hor := or_pow (y := x) hm9 ha0 ha1 hx.1 hl (by omega)
          obtain ⟨z, hz⟩ : ∃ z, z = acc + x * 2 ^ (7 * m) := ⟨_, rfl⟩
          rw [← hz] at hor
          have hres : rdN bs p = .ok (z, p + m + 1) := by
            unfold rdN
            rw [hrd.out, HD.out]
            simp only [rdNum]
            rw [if_pos hl, if_neg hbad, ← hz]
            simp [Except.map]
            omega
          have HRES := Lib.hid hres
          clear hres hz
          rw [← hx128] at hor
          by_cases h1m : 1 ≤ m
          · have z0 : (x == 0) = false := by simp; omega
            by_cases h9 : m = 9
            · have t10 : ((m : Int) + 1 == 10) = true := by simp; omega
              have l1 : x ≤ 1 := by omega
              have H9 := Lib.hid h9
              clear hbad h9 hx128
              go_wp2_with fail
              (try rw [Exit.noGoto_ret])
              go_ret
              exact ⟨hB1, .inl ⟨z, p + m + 1, _, HRES.out, rfl, rfl, HR1.out _ rfl⟩⟩
            · have t10 : ((m : Int) + 1 == 10) = false := by simp; omega
              have m8 : m < 9 := by omega
              clear hbad h9 hx128
              go_wp2_with fail
              (try rw [Exit.noGoto_ret])
              go_ret
              exact ⟨hB1, .inl ⟨z, p + m + 1, _, HRES.out, rfl, rfl, HR1.out _ rfl⟩⟩
          · have t10 : ((m : Int) + 1 == 10) = false := by simp; omega
            have m0 : m < 1 := by omega
            clear hbad h1m hx128
            go_wp2_with fail
            (try rw [Exit.noGoto_ret])
            go_ret
            exact ⟨hB1, .inl ⟨z, p + m + 1, _, HRES.out, rfl, rfl, HR1.out _ rfl⟩⟩
      · by_cases h9 : m = 9
        · have t10 : ((m : Int) + 1 == 10) = true := by simp; omega
          have hres : rdN bs p = .error 121 := by
            unfold rdN
            rw [hrd.out, HD.out]
            simp only [rdNum]
            rw [if_neg hl, if_pos h9]
            rfl
          have HRES := Lib.hid hres
          clear hres h9
          go_wp2_with fail
          (try rw [Exit.noGoto_panic])
          exact bodyPost_panic rfl ⟨hB1, .inr ⟨121, HRES.out, rfl⟩⟩
        · have t10 : ((m : Int) + 1 == 10) = false := by simp; omega
          have m8 : m < 9 := by omega
          have hor := or_pow (y := x % 128) hm9 ha0 ha1 (by omega) (by omega) (by omega)
          obtain ⟨z, hz⟩ : ∃ z, z = acc + x % 128 * 2 ^ (7 * m) := ⟨_, rfl⟩
          rw [← hz] at hor
          have hzb : 0 ≤ z ∧ z < 2 ^ (7 * (m + 1)) := by
            have h1 : 0 ≤ x % 128 * 2 ^ (7 * m) := Int.mul_nonneg (by omega) (by have := pow7_pos m; omega)
            have h2 : x % 128 * 2 ^ (7 * m) ≤ 127 * 2 ^ (7 * m) := Int.mul_le_mul_of_nonneg_right (by omega) (by have := pow7_pos m; omega)
            rw [pow7]
            omega
          have hres : rdNum 0 0 (bs.drop p) = rdNum (m + 1) z (bs.drop (p + (m + 1))) := by
            rw [hrd.out, HD.out]
            simp only [rdNum]
            rw [if_neg hl, if_neg h9, hz, show x - 128 = x % 128 by omega]
            rfl
          have HRES := Lib.hid hres
          have HZ := Lib.hid hzb
          clear hres hz h9 hzb
          go_wp2_with fail
          go_roundw
          case rel => exact ⟨m + 1, z, by omega, by go_num, rfl, HZ.out.1, HZ.out.2, by omega, hB1, by rw [show p + (m + 1) = p + m + 1 by omega]; simpa using hk1, HRES⟩
          case measure => simp [intOf]; omega
    · go_wp2_with fail
      refine (cut_no r (p + m) n c 1 _ _ hk hpn (by omega) (by omega)).mono ?_
      rintro e w1 ⟨rfl, hb1⟩
      go_wp2_with fail
      (try rw [Exit.noGoto_panic])
      refine bodyPost_panic rfl ⟨hB.later hb1, .inr ⟨120, ?_, rfl⟩⟩
      unfold rdN
      rw [hrd.out, List.drop_eq_nil_of_le (by have := HN.out; omega)]
      rfl
set_option maxRecDepth 100000 in
set_option maxHeartbeats 1000000 in
theorem number_nil (r : Nat) (w : World) (h : Rdr w r (.slice none 0 0) [] 0) :
    Calls Try.prog 84 #[.pointer (some ⟨r, 0, none⟩)] w fun e w' => e = fault 120 ∧ Below w.heap.size w w' := by
  have hk := h.blk
  clear h
  go_enter Try.func84, Try.ntmps84
  go_wp2
  go_step3
  go_wp2
  go_step3
  go_wp2
  go_loopw [3, 4, 5, 20, 23] (fun _ _ i _ _ wr => i = .int .i64 0 ∧ wr = w) (fun _ _ i _ _ _ => 0)
  case atStart => exact ⟨rfl, rfl⟩
  case round =>
    obtain ⟨rfl, rfl⟩ := hrel
    go_wp2_with fail
    refine (cut_no r 0 0 0 1 _ _ hk (by omega) (by omega) (by omega)).mono ?_
    rintro e w1 ⟨rfl, hb1⟩
    go_wp2_with fail
    (try rw [Exit.noGoto_panic])
    exact bodyPost_panic rfl ⟨rfl, hb1⟩
theorem mnumber_any (r p : Nat) (bv : Value) (bs : List Int) (w : World) (h : Rdr w r bv bs p) :
    Calls Try.prog 84 #[.pointer (some ⟨r, 0, none⟩)] w (Stp r bv bs w (rdN bs p) (fun x v _ => v = .int .u64 x)) := by
  rcases h.seg.2 with ⟨rfl, rfl⟩ | ⟨b, f, c, rfl, h2, h3, h4, h5⟩
  · obtain rfl : p = 0 := by simpa using h.le
    exact (number_nil r w h).mono fun e w' ⟨he, hb⟩ => ⟨.of_below hb, .inr ⟨120, by simp [rdN, rdNum, Except.map], he⟩⟩
  · exact number_some r p _ c b f bs w rfl h h2 h3 h4 h5
end Go.Proofs.Ytmghbejbdkoehaa


/- The reader's other steps: counted, text, sum, frame, row. -/
namespace Go.Proofs.Ytmghbejbdkoehaa
open Go.RowKit Go.Proofs.Kit Go.Shelf

def rdCounted (limit : Nat) (bs : List Int) (p : Nat) : Except Int (List Int × Nat) :=
  match rdN bs p with
  | .error c => .error c
  | .ok (n, q) => if (limit : Int) < n then .error 3 else rdCut bs q n.toNat
theorem rdN_err {bs : List Int} {p : Nat} {c : Int} {limit : Nat} (h : rdN bs p = .error c) : rdCounted limit bs p = .error c := by simp [rdCounted, h]
theorem rdN_ok {bs : List Int} {p q : Nat} {n : Int} {limit : Nat} (h : rdN bs p = .ok (n, q)) : rdCounted limit bs p = if (limit : Int) < n then .error 3 else rdCut bs q n.toNat := by simp [rdCounted, h]

set_option maxRecDepth 100000 in
set_option maxHeartbeats 1000000 in
theorem counted_any (limit r p : Nat) (bv : Value) (bs : List Int) (w : World) (h : Rdr w r bv bs p) :
    Calls Try.prog 93 #[.pointer (some ⟨r, 0, none⟩), .int .u64 (limit : Int)] w (Stp r bv bs w (rdCounted limit bs p) (Part r)) := by
  have HR := Lib.hid h; clear h
  go_enter Try.func93, Try.ntmps93
  go_wp2_with fail
  refine (mnumber_any r p bv bs _ HR.out).mono ?_
  rintro e w1 ⟨hB1, ⟨x, q, v, hr, rfl, rfl, hR1⟩ | ⟨c, hr, rfl⟩⟩
  · have hq := rdN_back HR.out.byt hr
    obtain ⟨n, rfl, hn64, _, hqn, _⟩ := hq
    have hres := rdN_ok (limit := limit) hr
    have HRES := Lib.hid hres
    have HR1 := Lib.hid hR1
    clear hr hres hR1
    by_cases hlim : (limit : Int) < (n : Int)
    · go_wp2_with fail
      exact bodyPost_panic rfl ⟨hB1, .inr ⟨3, by rw [HRES.out, if_pos hlim], rfl⟩⟩
    · have hres2 : rdCounted limit bs p = rdCut bs q n := by rw [HRES.out, if_neg hlim]; simp
      have HRES2 := Lib.hid hres2
      clear hres2
      go_wp2_with fail
      refine (cut_any r q n bv bs _ HR1.out).mono ?_
      rintro e w2 ⟨hB2, ⟨x, q2, v, hr, rfl, hP, hR2⟩ | ⟨c, hr, rfl⟩⟩
      · have HR2 := Lib.hid hr
        clear hr
        go_wp2
        go_ret
        exact ⟨hB1.trans hB2, .inl ⟨x, q2, _, by rw [HRES2.out, HR2.out], rfl, hP, hR2⟩⟩
      · exact bodyPost_panic rfl ⟨hB1.trans hB2, .inr ⟨c, by rw [HRES2.out, hr], rfl⟩⟩
  · exact bodyPost_panic rfl ⟨hB1, .inr ⟨c, rdN_err hr, rfl⟩⟩

/-- A string of bytes. -/
def ofB (l : List Int) : ByteArray := ⟨(l.map fun n => UInt8.ofNat n.toNat).toArray⟩
theorem conv_seg {W : World} {v : Value} {l : List Int} (h : Seg .u8 W v l) : (convert 59 9 v).run Try.prog W = .ok (.string (ofB l)) W := by
  rcases h.2 with ⟨rfl, rfl⟩ | ⟨b, f, c, rfl, _, _, q, a⟩
  · rw [run_convert_bytes_string W 59 9 5 _ _ _ (by kernel_rfl) (by kernel_rfl) (by kernel_rfl)]
    simp [Conv.bytesToString, ofB]
    rfl
  · rw [run_convert_bytes_string W 59 9 5 _ _ _ (by kernel_rfl) (by kernel_rfl) (by kernel_rfl)]
    have hl : (loadCells ⟨b, f, none⟩ l.length).run Try.prog W = .ok (l.map (Value.int .u8)).toArray W := by
      have := run_loadCells_list (P := Try.prog) (w := W) ⟨b, f, none⟩ (l.map (Value.int .u8)) (fun j v hj => by
        have hj' : j < l.length := by have := (List.getElem?_eq_some_iff.1 hj).1; simpa using this
        rw [Addr.add_lit, a j hj', ← hj]
        simp [hj'])
      simpa using this
    rw [run_bytesToString W _ _ _ _ hl, foldl_push_bytes]
    simp [ofB]

set_option maxRecDepth 100000 in
set_option maxHeartbeats 1000000 in
theorem mtext_any (r p : Nat) (bv : Value) (bs : List Int) (w : World) (h : Rdr w r bv bs p) :
    Calls Try.prog 86 #[.pointer (some ⟨r, 0, none⟩)] w (Stp r bv bs w (rdCounted 4000 bs p) (fun l v _ => v = .string (ofB l))) := by
  have HR := Lib.hid h; clear h
  go_enter Try.func86, Try.ntmps86
  go_wp2_with fail
  refine (counted_any 4000 r p bv bs _ HR.out).mono ?_
  rintro e w1 ⟨hB1, ⟨x, q, v, hr, rfl, hP, hR1⟩ | ⟨c, hr, rfl⟩⟩
  · have HRR := Lib.hid hr
    have hcv := conv_seg hP.1
    clear hr
    go_wp2
    go_ret
    exact ⟨hB1, .inl ⟨x, q, _, HRR.out, rfl, rfl, hR1⟩⟩
  · exact bodyPost_panic rfl ⟨hB1, .inr ⟨c, hr, rfl⟩⟩

/-- The number of bytes, the lowest one first. -/
def valB : List Int → Int
  | [] => 0
  | x :: t => x + 256 * valB t
theorem valB_snoc : ∀ (l : List Int) (x : Int), valB (l ++ [x]) = valB l + x * 2 ^ (8 * l.length)
  | [], x => by simp [valB]
  | y :: t, x => by
    have := valB_snoc t x
    simp only [List.cons_append, valB, this, List.length_cons]
    rw [show 8 * (t.length + 1) = 8 * t.length + 8 by omega, Int.pow_add]
    generalize (2 : Int) ^ (8 * t.length) = q
    have : x * (q * 2 ^ 8) = 256 * (x * q) := by rw [Int.mul_left_comm 256, ← Int.mul_comm q 256]; rfl
    rw [this]
    omega
theorem valB_bd : ∀ (l : List Int), Byt l → 0 ≤ valB l ∧ valB l < 2 ^ (8 * l.length)
  | [], _ => by simp [valB]
  | x :: t, h => by
    have h1 := h x (by simp)
    have h2 := valB_bd t (fun y hy => h y (by simp [hy]))
    simp only [valB, List.length_cons]
    rw [show 8 * (t.length + 1) = 8 * t.length + 8 by omega, Int.pow_add]
    generalize (2 : Int) ^ (8 * t.length) = q at *
    omega
theorem valB_low : ∀ (m : Nat) (s : Int), 0 ≤ s → s < 256 ^ m → valB (lowB m s) = s
  | 0, s, h0, h1 => by simp [lowB, valB] at *; omega
  | m + 1, s, h0, h1 => by
    have := valB_low m (s / 256) (by omega) (by rw [Int.pow_succ] at h1; omega)
    simp only [lowB, valB, this]
    omega
theorem low_valB : ∀ (l : List Int), Byt l → lowB l.length (valB l) = l
  | [], _ => rfl
  | x :: t, h => by
    have h1 := h x (by simp)
    have h2 := low_valB t (fun y hy => h y (by simp [hy]))
    simp only [valB, List.length_cons, lowB]
    rw [show (x + 256 * valB t) % 256 = x by omega, show (x + 256 * valB t) / 256 = valB t by omega, h2]
theorem or_pow8 {m : Nat} {acc y : Int} (hm : m ≤ 3) (ha0 : 0 ≤ acc) (ha1 : acc < 2 ^ (8 * m)) (h0 : 0 ≤ y) (h1 : y < 256) :
    bits .or .u32 acc (IntKind.u32.wrap (y * 2 ^ (8 * m))) = acc + y * 2 ^ (8 * m) := by
  have hp : (0 : Int) < 2 ^ (8 * m) := Int.pow_pos (by decide)
  have hb : y * 2 ^ (8 * m) < 4294967296 ∧ (2 : Int) ^ (8 * m) < 4294967296 := by
    have : m = 0 ∨ m = 1 ∨ m = 2 ∨ m = 3 := by omega
    rcases this with rfl | rfl | rfl | rfl
    all_goals simp
    all_goals omega
  have hn : 0 ≤ y * 2 ^ (8 * m) := Int.mul_nonneg h0 (by omega)
  rw [IntKind.wrap_u32', Int.emod_eq_of_lt hn hb.1, u32_or _ _ ha0 (by omega) hn hb.1]
  have e1 : (y * 2 ^ (8 * m)).toNat = y.toNat * 2 ^ (8 * m) := by
    have : y = (y.toNat : Int) := by omega
    rw [this]
    norm_cast
  have e2 : acc.toNat < 2 ^ (8 * m) := by
    have : ((2 ^ (8 * m) : Nat) : Int) = 2 ^ (8 * m) := by norm_cast
    omega
  rw [e1, Nat.or_comm, nat_join (8 * m) _ _ (Nat.mul_mod_left _ _) e2, ← e1]
  omega

def rdSum (bs : List Int) (p : Nat) : Except Int (Int × Nat) := (rdCut bs p 4).map fun y => (valB y.1, y.2)
end Go.Proofs.Ytmghbejbdkoehaa


/- The reader's steps that read a frame, and a row. -/
namespace Go.Proofs.Ytmghbejbdkoehaa
open Go.RowKit Go.Proofs.Kit Go.Shelf

theorem rdCut_sub {bs l : List Int} {p m q : Nat} (h : rdCut bs p m = .ok (l, q)) : l = (bs.drop p).take m ∧ q = p + m ∧ m ≤ bs.length - p := by
  unfold rdCut at h
  split at h
  · cases h
  · injection h with h; injection h with h1 h2; exact ⟨h1.symm, h2.symm, by omega⟩
theorem byt_sub {bs : List Int} (h : Byt bs) (p m : Nat) : Byt ((bs.drop p).take m) := fun y hy => h y (List.mem_of_mem_drop (List.mem_of_mem_take hy))
theorem rdCounted_sub {limit : Nat} {bs l : List Int} {p q : Nat} (hb : Byt bs) (h : rdCounted limit bs p = .ok (l, q)) : Byt l ∧ l.length ≤ bs.length := by
  cases hr : rdN bs p with
  | error c => rw [rdN_err hr] at h; cases h
  | ok y =>
    obtain ⟨n, q1⟩ := y
    rw [rdN_ok hr] at h
    split at h
    · cases h
    · obtain ⟨rfl, _, _⟩ := rdCut_sub h
      exact ⟨byt_sub hb _ _, by simp; omega⟩

def rdFrame (bs : List Int) (p : Nat) : Except Int (List Int × Nat) :=
  match rdCounted 1048576 bs p with
  | .error c => .error c
  | .ok (l, q) => match rdSum bs q with
    | .error c => .error c
    | .ok (s, q') => if s = sumB l then .ok (l, q') else .error 122
theorem rdFrame_e1 {bs : List Int} {p : Nat} {c : Int} (h : rdCounted 1048576 bs p = .error c) : rdFrame bs p = .error c := by simp [rdFrame, h]
theorem rdFrame_e2 {bs l : List Int} {p q : Nat} {c : Int} (h : rdCounted 1048576 bs p = .ok (l, q)) (h2 : rdSum bs q = .error c) : rdFrame bs p = .error c := by simp [rdFrame, h, h2]
theorem rdFrame_ok {bs l : List Int} {p q q' : Nat} {s : Int} (h : rdCounted 1048576 bs p = .ok (l, q)) (h2 : rdSum bs q = .ok (s, q')) : rdFrame bs p = if s = sumB l then .ok (l, q') else .error 122 := by simp [rdFrame, h, h2]

def rdRows : Nat → List Int → Nat → List Int → Except Int (List Int × Nat)
  | 0, _, q, acc => .ok (acc, q)
  | k + 1, bs, q, acc => match rdN bs q with
    | .error c => .error c
    | .ok (x, q') => rdRows k bs q' (acc ++ [x])
def rdRow (bs : List Int) (p : Nat) : Except Int (List Int × Nat) :=
  match rdN bs p with
  | .error c => .error c
  | .ok (n, q) => if bs.length - q < n.toNat then .error 120 else rdRows n.toNat bs q []
theorem rdRow_e {bs : List Int} {p : Nat} {c : Int} (h : rdN bs p = .error c) : rdRow bs p = .error c := by simp [rdRow, h]
theorem rdRow_ok {bs : List Int} {p q : Nat} {n : Int} (h : rdN bs p = .ok (n, q)) : rdRow bs p = if bs.length - q < n.toNat then .error 120 else rdRows n.toNat bs q [] := by simp [rdRow, h]
theorem rdRows_e {k : Nat} {bs acc : List Int} {q : Nat} {c : Int} (h : rdN bs q = .error c) : rdRows (k + 1) bs q acc = .error c := by simp [rdRows, h]
theorem rdRows_ok {k : Nat} {bs acc : List Int} {q q' : Nat} {x : Int} (h : rdN bs q = .ok (x, q')) : rdRows (k + 1) bs q acc = rdRows k bs q' (acc ++ [x]) := by simp [rdRows, h]

theorem mneed_any (r p many : Nat) (bv : Value) (bs : List Int) (w : World) (h : Rdr w r bv bs p) :
    Calls Try.prog 97 #[.pointer (some ⟨r, 0, none⟩), .int .u64 (many : Int)] w fun e w' => Below w.heap.size w w' ∧ (e = if bs.length - p < many then fault 120 else .returned (.tuple #[])) := by
  obtain ⟨o, c, rfl, hc, hm, _⟩ := h.seg.shape
  have hle := h.le
  by_cases hn : bs.length - p < many
  · rw [if_pos hn]; exact (need_no r p _ c many o w h.blk h.le (by omega) hn).mono fun e w' ⟨he, hb⟩ => ⟨hb, he⟩
  · rw [if_neg hn]; exact (need_ok r p _ c many o w h.blk h.le (by omega) (by omega)).mono fun e w' ⟨he, hb⟩ => ⟨hb, he⟩

end Go.Proofs.Ytmghbejbdkoehaa

