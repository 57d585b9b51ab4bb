/- CodecOne: the law's walk where nothing stands at the place; and all places. -/
import Derived.Test.YtdjcdhkdmgkdfaaL3
namespace Go.Proofs.Ytdjcdhkdmgkdfaa
open Go.RowKit Go.Proofs.Kit Go.Shelf

/-- A call that reads nothing. -/
def Fails (f : FuncId) (Z : Value) (b : List Int) (a : Int) : Prop := ∀ (u : World) (v : Value), Seg .u8 u v b → Calls Try.prog f #[v, .int .i64 a] u fun e w' => (∃ c : Int, (c == 0) = false ∧ e = .returned (.tuple #[Z, .int .i64 0, .int .i64 c])) ∧ Below u.heap.size u w'

set_option maxHeartbeats 4000000 in
theorem one_out (o : Option Addr) (n c : Nat) (l : List Int) (w : World) (hl : l.length = n) (hc : n ≤ c) (hm : c ≤ 9223372036854775807) (h : ArgI .u8 w o c l) (a : Int)
    (f1 : Fails 21 (.int .u64 0) (l.take 300) a) (f2 : Fails 24 (.string ⟨#[]⟩) (l.take 300) a) (f3 : Fails 20 (.slice none 0 0) (l.take 300) a) (f4 : Fails 23 (.slice none 0 0) (l.take 300) a) :
    Calls Try.prog 5 #[.slice o n c, .int .i64 a] w fun e w' => e = .returned (.bool true) ∧ Below w.heap.size w w' := by
  have HL := Lib.hid hl
  have HA := Lib.hid h
  have F1 := Lib.hid f1
  have F2 := Lib.hid f2
  have F3 := Lib.hid f3
  have F4 := Lib.hid f4
  clear hl h f1 f2 f3 f4
  go_enter Try.func5, Try.ntmps5
  go_wp2_with fail
  refine (wakes_true _).mono ?_
  rintro e w1 ⟨rfl, B1⟩
  go_wp2_with fail
  refine (few_any o n c l _ HL.out hc hm (HA.out.later B1)).mono ?_
  rintro e w2 ⟨v2, rfl, o2, b2⟩
  have B2 := B1.trans (b2.mono B1.size)
  have s2 := o2.seg
  obtain ⟨p2, c2, rfl, _, _, _⟩ := s2.shape
  obtain ⟨b, hb⟩ : ∃ b, b = l.take 300 := ⟨_, rfl⟩
  have HB := Lib.hid hb
  rw [← hb] at s2 F1 F2 F3 F4 ⊢
  obtain ⟨m, hm'⟩ : ∃ m, m = b.length := ⟨_, rfl⟩
  rw [← hm'] at s2 ⊢
  clear hb hm' o2 b2 B1
  go_wp2_with fail
  refine (F1.out _ _ s2).mono ?_
  rintro e w3 ⟨⟨cc, z0, rfl⟩, b3⟩
  have s3 := s2.later b3
  have B3 := B2.trans (b3.mono B2.size)
  go_wp2_with fail
  go_quiet (fail)
  have s3 := s3.later (below_drN (Below.refl _ _) nq)
  have B3 := below_drN B3 nq
  clear z0 b3 s2 B2
  go_wp2_with fail
  refine (F2.out _ _ s3).mono ?_
  rintro e w4 ⟨⟨cc, z0, rfl⟩, b4⟩
  have s4 := s3.later b4
  have B4 := B3.trans (b4.mono B3.size)
  clear b4 s3 B3
  go_wp2_with fail
  refine (F3.out _ _ s4).mono ?_
  rintro e w5 ⟨⟨cd, z1, rfl⟩, b5⟩
  have s5 := s4.later b5
  have B5 := B4.trans (b5.mono B4.size)
  clear b5 s4 B4
  go_wp2_with fail
  go_quiet (fail)
  have s5 := s5.later (below_drN (Below.refl _ _) nq)
  have B5 := below_drN B5 nq
  go_wp2_with fail
  refine (F4.out _ _ s5).mono ?_
  rintro e w6 ⟨⟨ce, z2, rfl⟩, b6⟩
  have s6 := s5.later b6
  have B6 := B5.trans (b6.mono B5.size)
  clear b6 s5 B5
  go_wp2_with fail
  refine (few_any o n c l _ HL.out hc hm (HA.out.later B6)).mono ?_
  rintro e w7 ⟨v9, rfl, o9, b9⟩
  have s7 := s6.later b9
  have B7 := B6.trans (b9.mono B6.size)
  go_wp2_with fail
  refine (equalb_same _ _ b _ s7 (by rw [HB.out]; exact o9.seg)).mono ?_
  rintro e w8 ⟨rfl, b10⟩
  have B8 := B7.trans (b10.mono B7.size)
  go_wp2_with fail
  go_ret
  exact ⟨rfl, B8⟩

theorem rdN_end (b : List Int) : rdN b b.length = .error 120 := by simp [rdN, rdNum, Except.map]
theorem one_true (o : Option Addr) (n c : Nat) (l : List Int) (w : World) (hl : l.length = n) (hc : n ≤ c) (hm : c ≤ 9223372036854775807) (h : ArgI .u8 w o c l) (hby : Byt l) (a : Int) :
    Calls Try.prog 5 #[.slice o n c, .int .i64 a] w fun e w' => e = .returned (.bool true) ∧ Below w.heap.size w w' := by
  have hbb : Byt (l.take 300) := fun x hx => hby x (List.mem_of_mem_take hx)
  have h300 : (l.take 300).length ≤ 300 := by simp; omega
  by_cases h1 : 0 ≤ a ∧ a ≤ ((l.take 300).length : Int)
  · obtain ⟨p, rfl⟩ : ∃ p : Nat, a = (p : Int) := ⟨a.toNat, by omega⟩
    by_cases h2 : p < (l.take 300).length
    · exact one_in o n c l w hl hc hm h hby p h2
    · obtain rfl : p = (l.take 300).length := by omega
      have e1 := rdN_end (l.take 300)
      refine one_out o n c l w hl hc hm h _ ?_ ?_ ?_ ?_
      · intro u v hs
        exact (readn_any _ v _ u hs hbb (by omega) (Nat.le_refl _)).mono fun e w' hr => ⟨⟨120, rfl, (hr.err e1).1⟩, (hr.err e1).2⟩
      · intro u v hs
        exact (reads_any _ v _ u hs hbb (by omega) (Nat.le_refl _)).mono fun e w' hr => ⟨⟨120, rfl, (hr.err (rdN_err e1)).1⟩, (hr.err (rdN_err e1)).2⟩
      · intro u v hs
        exact (readu_any _ v _ u hs hbb (by omega) (Nat.le_refl _)).mono fun e w' hr => ⟨⟨120, rfl, (hr.err (rdRow_e e1)).1⟩, (hr.err (rdRow_e e1)).2⟩
      · intro u v hs
        exact (readb_any _ v _ u hs hbb (by omega) (Nat.le_refl _)).mono fun e w' hr => ⟨⟨120, rfl, (hr.err (rdFrame_e1 (rdN_err e1))).1⟩, (hr.err (rdFrame_e1 (rdN_err e1))).2⟩
  · have h2 : a < 0 ∨ ((l.take 300).length : Int) < a := by omega
    refine one_out o n c l w hl hc hm h _ ?_ ?_ ?_ ?_
    · intro u v hs; exact (readn_arg a v _ u hs h2).mono fun e w' ⟨he, hb⟩ => ⟨⟨2, rfl, he⟩, hb⟩
    · intro u v hs; exact (reads_arg a v _ u hs h2).mono fun e w' ⟨he, hb⟩ => ⟨⟨2, rfl, he⟩, hb⟩
    · intro u v hs; exact (readu_arg a v _ u hs h2).mono fun e w' ⟨he, hb⟩ => ⟨⟨2, rfl, he⟩, hb⟩
    · intro u v hs; exact (readb_arg a v _ u hs h2).mono fun e w' ⟨he, hb⟩ => ⟨⟨2, rfl, he⟩, hb⟩
end Go.Proofs.Ytdjcdhkdmgkdfaa
