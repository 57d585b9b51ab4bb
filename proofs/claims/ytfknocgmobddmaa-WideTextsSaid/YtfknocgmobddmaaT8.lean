import Derived.Test.YtfknocgmobddmaaT7
import Derived.WalkMore
import Derived.ScopeJumps
namespace Go.Proofs.Ytfknocgmobddmaa
open Go.RowKit Go.Proofs.Kit Go.Shelf

theorem wp_scope_jumps1 {P : Program} {a : Act} {w : World} {Q : Exit → Act → World → Prop} {c rest : Code} (l : Nat) (J : Act → World → Prop) (μ : Act → World → Nat) (hf : findLabel c l = some (Code.skip.seq rest))
    (pass : ∀ a w, J a w → rest.wp P (Exit.jump l (fun a' w' => J a' w' ∧ μ a' w' < μ a w) Q) a w)
    (first : (∀ a w, J a w → rest.wp P (Exit.jump l J Q) a w) → c.wp P (Exit.jump l J Q) a w) : (Code.scope c).wp P Q a w :=
  wp_scope_jumps l J μ hf (first (fun a w h => Code.wp_mono (fun e a' w' he => by
    cases e with
    | goto l' =>
      simp only [Exit.jump] at he ⊢
      exact ⟨he.1, he.2.1⟩
    | _ => exact he) (pass a w h))) (fun a w h => wp_seq (wp_skip (pass a w h)))

/-- What stands each time the powers go on: out times A to the m is what is sought. -/
structure PW (w : World) (P : Int) (A out : Int) (m o : Nat) (wr : World) : Prop where
  a0 : 0 ≤ A
  a1 : A < Big
  o0 : 0 ≤ out
  o1 : out < Big
  is : out * A ^ m = P
  one : 1 ≤ out ∨ A = 0
  m1 : m < 9223372036854775808
  ba : Blk wr w.heap.size #[.int .u64 (hiW A), .int .u64 (loW A)] 26
  br : Blk wr (w.heap.size + 1) #[.int .u64 0, .int .u64 0] 26
  bo : Blk wr o #[.int .u64 (hiW out), .int .u64 (loW out)] 26
  ho : w.heap.size + 1 < o
  below : Below w.heap.size w wr
theorem PW.later {w : World} {P A out : Int} {m o : Nat} {wr w' : World} (h : PW w P A out m o wr) (hb : Below wr.heap.size wr w') : PW w P A out m o w' :=
  { h with ba := h.ba.later hb, br := h.br.later hb, bo := h.bo.later hb, below := h.below.trans (hb.mono h.below.size) }

theorem pow_ge1 {A : Int} (h : 1 ≤ A) : ∀ n : Nat, 1 ≤ A ^ n
  | 0 => by simp
  | n + 1 => by rw [Int.pow_succ]; have := pow_ge1 h n; have := Int.mul_le_mul this h (by decide) (by omega); omega
theorem mul_ge {x y : Int} (hx : 0 ≤ x) (hy : 1 ≤ y) : x ≤ x * y := by
  have := Int.mul_le_mul_of_nonneg_left hy hx; omega

theorem pow_square (A : Int) (k : Nat) : A ^ (2 * k) = (A * A) ^ k := by
  rw [show A * A = A ^ 2 by rw [Int.pow_succ, Int.pow_succ, Int.pow_zero, Int.one_mul], ← Int.pow_mul]
/-- What is left behind a square that is too great is too great. -/
theorem great_square {A out P : Int} {k : Nat} (_a0 : 0 ≤ A) (_o0 : 0 ≤ out) (one : 1 ≤ out ∨ A = 0) (hk : 0 < k) (is : out * (A * A) ^ k = P) (hc : ¬ A * A < Big) : ¬ P < Big := by
  have hA : A ≠ 0 := by rintro rfl; exact hc (by decide)
  have h1 : 1 ≤ out := by rcases one with h | h; exact h; exact absurd h hA
  obtain ⟨j, rfl⟩ : ∃ j, k = j + 1 := ⟨k - 1, by omega⟩
  have hAA : 1 ≤ A * A := by have : (1 : Int) ≤ Big := by decide
                             omega
  have h2 := pow_ge1 hAA j
  have h3 : A * A ≤ (A * A) ^ (j + 1) := by
    have := mul_ge (x := A * A) (y := (A * A) ^ j) (by omega) h2
    rw [Int.pow_succ, Int.mul_comm ((A * A) ^ j)]; exact this
  have h4 : (A * A) ^ (j + 1) ≤ out * (A * A) ^ (j + 1) := by
    have := mul_ge (x := (A * A) ^ (j + 1)) (y := out) (by omega) h1
    rw [Int.mul_comm out]; exact this
  omega
/-- What comes of a product that is too great is too great. -/
theorem great_product {A out P : Int} {k : Nat} (a0 : 0 ≤ A) (o0 : 0 ≤ out) (is : out * A * (A * A) ^ k = P) (hc : ¬ out * A < Big) : ¬ P < Big := by
  have hA : A ≠ 0 := by rintro rfl; exact hc (by rw [Int.mul_zero]; decide)
  have hA1 : 1 ≤ A := by omega
  have hAA : 1 ≤ A * A := by have := Int.mul_le_mul hA1 hA1 (by decide) a0; omega
  have h2 := mul_ge (x := out * A) (y := (A * A) ^ k) (Int.mul_nonneg o0 a0) (pow_ge1 hAA k)
  omega
theorem PW.square {w : World} {P A out : Int} {m o : Nat} {wr : World} (h : PW w P A out m o wr) {k : Nat} {out' : Int} (o0 : 0 ≤ out') (o1 : out' < Big) (hout : 1 ≤ out' ∨ A = 0) (hk : k ≤ m) (is : out' * (A * A) ^ k = P) (hA : A * A < Big)
    (bo : Blk wr o #[.int .u64 (hiW out'), .int .u64 (loW out')] 26) :
    PW w P (A * A) out' k o ((wr.setCell ⟨w.heap.size, 0, none⟩ (.int .u64 (hiW (A * A)))).setCell ⟨w.heap.size, 1, none⟩ (.int .u64 (loW (A * A)))) where
  a0 := Int.mul_nonneg h.a0 h.a0
  a1 := hA
  o0 := o0
  o1 := o1
  is := is
  one := hout.elim .inl (fun e => .inr (by rw [e]; rfl))
  m1 := by have := h.m1; omega
  ba := (h.ba.set 0 _).set 1 _
  br := (h.br.other (by simp) _).other (by simp) _
  bo := (bo.other (by have := h.ho; simp; omega) _).other (by have := h.ho; simp; omega) _
  ho := h.ho
  below := (h.below.setCell (by simp) _).setCell (by simp) _
/-- The panic's way out of a scope. -/
abbrev Ovf (w : World) (P : Int) (w1 : World) : Prop := ([] : List Deferred) = [] ∧ (Reck (P < Big) P ovf ∧ Below w.heap.size w w1)

set_option maxHeartbeats 1000000 in
theorem power_any (a b : Int) (n : Nat) (ha : Wd a) (hb : Wd b) (hn : n < 9223372036854775808) (w : World) :
    Calls Try.prog 43 #[WV a b, .int .i64 n] w fun e w' => Reck (num (a, b) ^ n < Big) (num (a, b) ^ n) e ∧ Below w.heap.size w w' := by
  obtain ⟨P, hP⟩ : ∃ P, P = num (a, b) ^ n := ⟨_, rfl⟩
  rw [← hP]
  have HP := Lib.hid hP; clear hP
  go_enter Try.func43, Try.ntmps43
  go_wp2_with fail
  refine wp_scope_jumps1 0 (fun a' wr => ∃ (m : Nat) (A out : Int) (o : Nat) (u7 u8 u9 u10 u11 u12 u13 u14 u15 u16 u17 u18 u19 : Value), a' = { tmps := #[WV a b, .int .i64 m, .pointer (some ⟨w.heap.size, 0, none⟩), undef, .pointer (some ⟨w.heap.size + 1, 0, none⟩), .pointer (some ⟨o, 0, none⟩), WV 0 1, u7, u8, u9, u10, u11, u12, u13, u14, u15, u16, u17, u18, u19, undef], defers := [] } ∧ PW w P A out m o wr) (fun a' _ => (intOf (a'.tmps.getD 1 undef)).toNat) rfl ?pass ?first
  case first =>
    intro hp
    go_wp2_with (go_at_call 19; refine (of_any 1 _).mono ?_; rintro e w' ⟨rfl, hbl⟩)
    go_step3
    rename_i K hK
    refine hK _ _ (hp _ _ ⟨n, num (a, b), 1, _, _, _, _, _, _, _, _, _, _, _, _, _, _, rfl, ?_⟩)
    have hA := num_pos (p := (a, b)) ⟨ha, hb⟩
    have hsz : w.heap.size + 1 < w'.heap.size := by have := hbl.size; simp at this; omega
    refine ⟨hA.1, hA.2, by decide, by decide, by rw [HP.out]; simp, .inl (by decide), hn, ?_, ?_, ?_, hsz, ?_⟩
    · rw [hiW_num ⟨ha, hb⟩, loW_num ⟨ha, hb⟩]
      exact (((Blk.new _ _ _).alloc _).later hbl).alloc _
    · exact ((blk_at _ _ _ (by simp)).later hbl).alloc _
    · exact Blk.new _ _ _
    · exact ((below2 w _ _).trans (hbl.mono (by simp; omega))).alloc (by omega) _
  case pass =>
    rintro a' wr ⟨m, A, out, o, u7, u8, u9, u10, u11, u12, u13, u14, u15, u16, u17, u18, u19, rfl, pw⟩
    have cA0 := pw.ba.cell 0
    have cA1 := pw.ba.cell 1
    have fA0 := pw.ba.frozen 0
    have fA1 := pw.ba.frozen 1
    have cO0 := pw.bo.cell 0
    have cO1 := pw.bo.cell 1
    have fO0 := pw.bo.frozen 0
    have fO1 := pw.bo.frozen 1
    have cR0 := pw.br.cell 0
    have cR1 := pw.br.cell 1
    have fR0 := pw.br.frozen 0
    have fR1 := pw.br.frozen 1
    simp only [List.getElem?_toArray, List.getElem?_cons_zero, List.getElem?_cons_succ] at cA0 cA1 cO0 cO1 cR0 cR1
    have hm := pw.m1
    have wA : Wd (hiW A) := hiW_wd pw.a0 pw.a1
    have wO : Wd (hiW out) := hiW_wd pw.o0 pw.o1
    have hsz := pw.bo.lt
    have hho := pw.ho
    by_cases hodd : m % 2 = 1
    · have h1 : ((m : Int) % 2 == 1) = true := by simp; omega
      go_wp2_with fail
      refine (product_any _ _ _ _ wO (loW_wd _) wA (loW_wd _) _).mono ?_
      rintro e w1 ⟨hr, hbl⟩
      rw [num_hl, num_hl] at hr
      have pw1 := pw.later hbl
      have hpm : A ^ m = A * (A * A) ^ (m / 2) := by rw [← pow_square, ← Int.pow_succ']; congr 1; omega
      have is' := pw.is
      rw [hpm, ← Int.mul_assoc] at is'
      have IS := Lib.hid is'; clear is' hpm
      clear cA0 cA1 fA0 fA1 cO0 cO1 fO0 fO1 cR0 cR1 fR0 fR1
      have cA0 := pw1.ba.cell 0
      have cA1 := pw1.ba.cell 1
      have fA0 := pw1.ba.frozen 0
      have fA1 := pw1.ba.frozen 1
      have cO0 := pw1.bo.cell 0
      have cO1 := pw1.bo.cell 1
      have fO0 := pw1.bo.frozen 0
      have fO1 := pw1.bo.frozen 1
      have cR0 := pw1.br.cell 0
      have cR1 := pw1.br.cell 1
      have fR0 := pw1.br.frozen 0
      have fR1 := pw1.br.frozen 1
      simp only [List.getElem?_toArray, List.getElem?_cons_zero, List.getElem?_cons_succ] at cA0 cA1 cO0 cO1 cR0 cR1
      rcases hr.fits with ⟨hc, rfl⟩ | ⟨hc, rfl⟩
      · have bo1 := (pw1.bo.set 0 (.int .u64 (hiW (out * A)))).set 1 (.int .u64 (loW (out * A)))
        have ba1 := (pw1.ba.other (p := ⟨o, 0, none⟩) (by simp; omega) (.int .u64 (hiW (out * A)))).other (p := ⟨o, 1, none⟩) (by simp; omega) (.int .u64 (loW (out * A)))
        have br1 := (pw1.br.other (p := ⟨o, 0, none⟩) (by simp; omega) (.int .u64 (hiW (out * A)))).other (p := ⟨o, 1, none⟩) (by simp; omega) (.int .u64 (loW (out * A)))
        have below1 := (pw1.below.setCell (p := ⟨o, 0, none⟩) (by simp; omega) (.int .u64 (hiW (out * A)))).setCell (p := ⟨o, 1, none⟩) (by simp; omega) (.int .u64 (loW (out * A)))
        have ho0 : 0 ≤ out * A := Int.mul_nonneg pw.o0 pw.a0
        have hone : 1 ≤ out * A ∨ A = 0 := by
          rcases pw.one with h | h
          · by_cases hz : A = 0
            · exact .inr hz
            · have := Int.mul_le_mul h (show 1 ≤ A by have := pw.a0; omega) (by decide) pw.o0
              exact .inl (by omega)
          · exact .inr h
        by_cases hpos : 0 < m / 2
        · have h2 : decide (0 < (m : Int) / 2) = true := by simp; omega
          go_wp2_with fail
          obtain ⟨w2, hw2⟩ : ∃ w2, w2 = (w1.setCell ⟨o, 0, none⟩ (.int .u64 (hiW (out * A)))).setCell ⟨o, 1, none⟩ (.int .u64 (loW (out * A))) := ⟨_, rfl⟩
          rw [← hw2] at bo1 ba1 br1 below1 ⊢
          have pw2 : PW w P A (out * A) (2 * (m / 2)) o w2 := ⟨pw.a0, pw.a1, ho0, hc, by rw [pow_square]; exact IS.out, hone, by omega, ba1, br1, bo1, pw.ho, below1⟩
          clear hw2
          refine (product_any _ _ _ _ wA (loW_wd _) wA (loW_wd _) _).mono ?_
          rintro e w3 ⟨hr3, hbl3⟩
          rw [num_hl] at hr3
          have pw3 := pw2.later hbl3
          clear cA0 cA1 fA0 fA1 cO0 cO1 fO0 fO1 cR0 cR1 fR0 fR1
          have cA0 := pw3.ba.cell 0
          have cA1 := pw3.ba.cell 1
          have fA0 := pw3.ba.frozen 0
          have fA1 := pw3.ba.frozen 1
          simp only [List.getElem?_toArray, List.getElem?_cons_zero, List.getElem?_cons_succ] at cA0 cA1
          rcases hr3.fits with ⟨hc3, rfl⟩ | ⟨hc3, rfl⟩
          · go_wp2_with fail
            go_step3
            refine ⟨rfl, ⟨m / 2, A * A, out * A, o, _, _, _, _, _, _, _, _, _, _, _, _, _, rfl, pw3.square ho0 hc hone (by omega) IS.out hc3 pw3.bo⟩, ?_⟩
            simp [intOf]; omega
          · exact (⟨rfl, Reck.no (great_square pw.a0 ho0 hone hpos IS.out (by omega)), pw3.below⟩ : Ovf w P w3)
        · have h2 : decide (0 < (m : Int) / 2) = false := by simp; omega
          have hz : m / 2 = 0 := by omega
          have IS2 : out * A = P := by have := IS.out; rw [hz] at this; simpa using this
          have HIS := Lib.hid IS2; clear IS2
          go_wp2_with fail
          simp only [Exit.jump]
          have B3 := (br1.set 0 (.int .u64 (hiW (out * A)))).set 1 (.int .u64 (loW (out * A)))
          have C0 := B3.cell 0
          have C1 := B3.cell 1
          simp at C0 C1
          refine bodyPost_ret (v := WV (hiW (out * A)) (loW (out * A))) (by simp [results, Try.results43, go_sem, C0, C1]) rfl ⟨?_, (below1.setCell (by simp) _).setCell (by simp) _⟩
          rw [HIS.out]; exact Reck.ok (by rw [← HIS.out]; exact hc)
      · exact (⟨rfl, Reck.no (great_product pw.a0 pw.o0 IS.out (by omega)), pw1.below⟩ : Ovf w P w1)
    · have h1 : ((m : Int) % 2 == 1) = false := by simp; omega
      have hpm : A ^ m = (A * A) ^ (m / 2) := by rw [← pow_square]; congr 1; omega
      have is' := pw.is
      rw [hpm] at is'
      have IS := Lib.hid is'; clear is' hpm
      by_cases hpos : 0 < m / 2
      · have h2 : decide (0 < (m : Int) / 2) = true := by simp; omega
        go_wp2_with fail
        refine (product_any _ _ _ _ wA (loW_wd _) wA (loW_wd _) _).mono ?_
        rintro e w1 ⟨hr, hbl⟩
        rw [num_hl] at hr
        have pw1 := pw.later hbl
        clear cA0 cA1 fA0 fA1 cO0 cO1 fO0 fO1 cR0 cR1 fR0 fR1
        have cA0 := pw1.ba.cell 0
        have cA1 := pw1.ba.cell 1
        have fA0 := pw1.ba.frozen 0
        have fA1 := pw1.ba.frozen 1
        simp only [List.getElem?_toArray, List.getElem?_cons_zero, List.getElem?_cons_succ] at cA0 cA1
        rcases hr.fits with ⟨hc, rfl⟩ | ⟨hc, rfl⟩
        · go_wp2_with fail
          go_step3
          refine ⟨rfl, ⟨m / 2, A * A, out, o, _, _, _, _, _, _, _, _, _, _, _, _, _, rfl, pw1.square pw.o0 pw.o1 pw.one (by omega) IS.out hc pw1.bo⟩, ?_⟩
          simp [intOf]; omega
        · exact (⟨rfl, Reck.no (great_square pw.a0 pw.o0 pw.one hpos IS.out (by omega)), pw1.below⟩ : Ovf w P w1)
      · have h2 : decide (0 < (m : Int) / 2) = false := by simp; omega
        have hz : m / 2 = 0 := by omega
        have IS2 : out = P := by have := IS.out; rw [hz] at this; simpa using this
        have HIS := Lib.hid IS2; clear IS2
        go_wp2_with fail
        simp only [Exit.jump]
        have B3 := (pw.br.set 0 (.int .u64 (hiW out))).set 1 (.int .u64 (loW out))
        have C0 := B3.cell 0
        have C1 := B3.cell 1
        simp at C0 C1
        refine bodyPost_ret (v := WV (hiW out) (loW out)) (by simp [results, Try.results43, go_sem, C0, C1]) rfl ⟨?_, (pw.below.setCell (by simp) _).setCell (by simp) _⟩
        rw [HIS.out]; exact Reck.ok (by rw [← HIS.out]; exact pw.o1)
end Go.Proofs.Ytfknocgmobddmaa
