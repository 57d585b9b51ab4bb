/- WideAdds' law. -/
import Derived.Test.YtfknocgmobddmaaG11
namespace Go.Proofs.Ytfknocgmobddmaa
open Go.RowKit Go.Proofs.Kit

/-- A slice of pairs of wide numbers that came in. -/
def ArgQ (w : World) (o : Option Addr) (l : List ((Int × Int) × (Int × Int))) : Prop :=
  l = [] ∨ ∃ b off, o = some ⟨b, off, none⟩ ∧ b < w.heap.size ∧ ∀ k (h : k < l.length), w.cell? ⟨b, off + k * 4, none⟩ = some (.int .u64 l[k].1.1) ∧ w.cell? ⟨b, off + k * 4 + 1, none⟩ = some (.int .u64 l[k].1.2) ∧ w.cell? ⟨b, off + k * 4 + 2, none⟩ = some (.int .u64 l[k].2.1) ∧ w.cell? ⟨b, off + k * 4 + 3, none⟩ = some (.int .u64 l[k].2.2)

def Four (w0 : World) (k4 : Nat) (a b c d : Int) (w : World) : Prop :=
  Blk w k4 #[.int .u64 a, .int .u64 b, .int .u64 c, .int .u64 d] 27 ∧ Below w0.heap.size w0 w
section
variable {w0 w w' : World} {k4 : Nat} {a b c d : Int}
theorem Four.later (h : Four w0 k4 a b c d w) (hb : Below w.heap.size w w') : Four w0 k4 a b c d w' := ⟨h.1.later hb, below_later h.2 hb⟩
theorem Four.alloc (h : Four w0 k4 a b c d w) (o : Obj) : Four w0 k4 a b c d (w.alloc o) := ⟨h.1.alloc _, h.2.alloc h.2.size _⟩
theorem Four.drew (h : Four w0 k4 a b c d w) : Four w0 k4 a b c d w.drew := ⟨h.1, h.2.drew⟩
theorem Four.cells (h : Four w0 k4 a b c d w) : w.cell? ⟨k4, 0, none⟩ = some (.int .u64 a) ∧ w.cell? ⟨k4, 1, none⟩ = some (.int .u64 b) ∧ w.cell? ⟨k4, 2, none⟩ = some (.int .u64 c) ∧ w.cell? ⟨k4, 3, none⟩ = some (.int .u64 d) ∧ Four w0 k4 a b c d w :=
  ⟨h.1.cell 0, h.1.cell 1, h.1.cell 2, h.1.cell 3, h⟩
end
/-- What the round holds ahead of its tests. -/
def Eight (w0 : World) (k4 : Nat) (a b c d : Int) (k8 : Nat) (A1 B1 : Int) (k10 : Nat) (A2 B2 : Int) (k12 : Nat) (A3 B3 : Int) (v1 : Value) (L1 : List Int) (v2 : Value) (L2 : List Int) (w : World) : Prop :=
  Four w0 k4 a b c d w ∧ Blk w k8 #[.int .u64 A1, .int .u64 B1] 26 ∧ Blk w k10 #[.int .u64 A2, .int .u64 B2] 26 ∧ Blk w k12 #[.int .u64 A3, .int .u64 B3] 26 ∧ Seg .u64 w v1 L1 ∧ Seg .u64 w v2 L2
section
variable {w0 w w' : World} {k4 k8 k10 k12 : Nat} {a b c d A1 B1 A2 B2 A3 B3 : Int} {v1 v2 : Value} {L1 L2 : List Int}
theorem Eight.later (h : Eight w0 k4 a b c d k8 A1 B1 k10 A2 B2 k12 A3 B3 v1 L1 v2 L2 w) (hb : Below w.heap.size w w') : Eight w0 k4 a b c d k8 A1 B1 k10 A2 B2 k12 A3 B3 v1 L1 v2 L2 w' :=
  ⟨h.1.later hb, h.2.1.later hb, h.2.2.1.later hb, h.2.2.2.1.later hb, h.2.2.2.2.1.later hb, h.2.2.2.2.2.later hb⟩
theorem Eight.drew (h : Eight w0 k4 a b c d k8 A1 B1 k10 A2 B2 k12 A3 B3 v1 L1 v2 L2 w) : Eight w0 k4 a b c d k8 A1 B1 k10 A2 B2 k12 A3 B3 v1 L1 v2 L2 w.drew :=
  ⟨h.1.drew, h.2.1, h.2.2.1, h.2.2.2.1, h.2.2.2.2.1.drew, h.2.2.2.2.2.drew⟩
theorem Eight.cells (h : Eight w0 k4 a b c d k8 A1 B1 k10 A2 B2 k12 A3 B3 v1 L1 v2 L2 w) : w.cell? ⟨k4, 0, none⟩ = some (.int .u64 a) ∧ w.cell? ⟨k4, 1, none⟩ = some (.int .u64 b) ∧ w.cell? ⟨k4, 2, none⟩ = some (.int .u64 c) ∧ w.cell? ⟨k4, 3, none⟩ = some (.int .u64 d) ∧ w.cell? ⟨k8, 0, none⟩ = some (.int .u64 A1) ∧ w.cell? ⟨k8, 1, none⟩ = some (.int .u64 B1) ∧ w.cell? ⟨k10, 0, none⟩ = some (.int .u64 A2) ∧ w.cell? ⟨k10, 1, none⟩ = some (.int .u64 B2) ∧ w.cell? ⟨k12, 0, none⟩ = some (.int .u64 A3) ∧ w.cell? ⟨k12, 1, none⟩ = some (.int .u64 B3) ∧ Eight w0 k4 a b c d k8 A1 B1 k10 A2 B2 k12 A3 B3 v1 L1 v2 L2 w :=
  ⟨h.1.1.cell 0, h.1.1.cell 1, h.1.1.cell 2, h.1.1.cell 3, h.2.1.cell 0, h.2.1.cell 1, h.2.2.1.cell 0, h.2.2.1.cell 1, h.2.2.2.1.cell 0, h.2.2.2.1.cell 1, h⟩
end
theorem minus_res (v1 v2 : Value) (l1 l2 : List Int) (w : World) (s1 : Seg .u64 w v1 l1) (s2 : Seg .u64 w v2 l2) (d1 : Dig l1) (d2 : Dig l2) (h1 : l1.length ≤ 1000000) (hle : dv l2 ≤ dv l1) :
    Calls Try.prog 20 #[v1, v2] w fun e w' => ∃ v' L, e = .returned v' ∧ Dig L ∧ dv L = dv l1 - dv l2 ∧ Owns .u64 24 w.heap.size w' v' L ∧ Below w.heap.size w w' :=
  (minus_any v1 v2 l1 l2 w s1 s2 d1 d2 h1 hle).mono fun e w' ⟨v', he, ho, hb⟩ => ⟨v', _, he, dg_dig _, by rw [dv_dg]; omega, ho, hb⟩
/-- How an answer is like what is reckoned. -/
def Fits (N : Int) (A B E : Int) : Prop := ∀ v L w, Seg .u64 w v L → Dig L → dv L = N → Calls Try.prog 16 #[WV A B, .int .i64 E, v] w fun e w' => e = .returned (.bool true) ∧ Below w.heap.size w w'
theorem fits_of {N : Int} {e : Ending} (h : Chk (N < Big) N e) : ∃ A B E, e = .returned (.tuple #[WV A B, .int .i64 E]) ∧ Fits N A B E := by
  rcases h.fits with ⟨hc, rfl⟩ | ⟨hc, rfl⟩
  · exact ⟨_, _, _, rfl, fun v L w s d hv => by rw [← hv] at hc ⊢; exact like_ok v L w s d hc⟩
  · exact ⟨_, _, _, rfl, fun v L w s d hv => like_no v L w s d (by omega)⟩

set_option maxRecDepth 100000 in
set_option maxHeartbeats 4000000 in
theorem adds_at (o : Option Addr) (len cap : Nat) (M : List ((Int × Int) × (Int × Int))) (_hlc : len ≤ cap) (_hm : cap ≤ maxLen) (hM : M.length = len) (w : World) (hl : ArgQ w o M) (hp : ∀ p ∈ M, Wp p.1 ∧ Wp p.2) :
    Calls Try.prog 3 #[.slice o len cap] w fun e w' => e = .returned (.bool true) ∧ Below w.heap.size w w' := by
  have HA := Lib.hid hl; clear hl
  have HP := Lib.hid hp; clear hp
  have HM := Lib.hid hM; clear hM
  go_enter Try.func3, Try.ntmps3
  go_wp2_with fail
  refine (wakes_true _).mono ?_
  rintro e w1 ⟨rfl, h1⟩
  go_wp2_with fail
  go_loopw [18] (fun i wr => ∃ m : Nat, m ≤ len ∧ m ≤ 12 ∧ i = .int .i64 (m : Int) ∧ Below w.heap.size w wr) (fun i _ => len - (intOf i).toNat)
  case atStart => exact ⟨0, by omega, by omega, rfl, h1⟩
  case round =>
    clear h1
    obtain ⟨m, hml, hm12, rfl, hB⟩ := hrel
    by_cases hlt : m < len
    · have hkl : m < M.length := by have := HM.out; omega
      obtain ⟨b0, off, rfl, hb, hc⟩ := HA.out.resolve_left (fun e => by rw [e] at hkl; simp at hkl)
      have c0 := (hB.cell (p := ⟨b0, off + m * 4, none⟩) hb).trans (hc m hkl).1
      have c1 := (hB.cell (p := ⟨b0, off + m * 4 + 1, none⟩) hb).trans (hc m hkl).2.1
      have c2 := (hB.cell (p := ⟨b0, off + m * 4 + 2, none⟩) hb).trans (hc m hkl).2.2.1
      have c3 := (hB.cell (p := ⟨b0, off + m * 4 + 3, none⟩) hb).trans (hc m hkl).2.2.2
      have hwp := HP.out _ (List.getElem_mem hkl)
      obtain ⟨⟨⟨a, b⟩, c, d⟩, hxz⟩ : ∃ q, q = M[m] := ⟨_, rfl⟩
      rw [← hxz] at c0 c1 c2 c3 hwp
      simp only at c0 c1 c2 c3
      obtain ⟨⟨ha, hb'⟩, hc', hd⟩ := hwp
      have Ha := Lib.hid ha; have Hb := Lib.hid hb'; have Hc := Lib.hid hc'; have Hd := Lib.hid hd
      have HC := Lib.hid hc
      clear hxz ha hb' hc' hd hc
      by_cases h12 : m = 12
      · subst h12
        go_wp2_with fail
        go_ret
        exact ⟨rfl, hB.alloc hB.size _⟩
      · have t12 : ((m : Int) == 12) = false := by simp; omega
        go_upto_region 7 with fail
        have hT : Four w wr.heap.size a b c d (wr.alloc (.cells #[.int .u64 a, .int .u64 b, .int .u64 c, .int .u64 d] 27)) := ⟨Blk.new _ _ _, hB.alloc hB.size _⟩
        obtain ⟨k4, hk4⟩ : ∃ k, k = wr.heap.size := ⟨_, rfl⟩
        obtain ⟨w5, hw5⟩ : ∃ w5, w5 = wr.alloc (.cells #[.int .u64 a, .int .u64 b, .int .u64 c, .int .u64 d] 27) := ⟨_, rfl⟩
        rw [← hk4, ← hw5] at hT ⊢
        clear hk4 hw5 hB c0 c1 c2 c3
        have hw := hT.2.size
        go_region_held3 (fun w' => w'.cell? ⟨k4, 0, none⟩ = some (.int .u64 a) ∧ w'.cell? ⟨k4, 1, none⟩ = some (.int .u64 b) ∧ w'.cell? ⟨k4, 2, none⟩ = some (.int .u64 c) ∧ w'.cell? ⟨k4, 3, none⟩ = some (.int .u64 d) ∧ Four w k4 a b c d w')
          (first | exact hT.cells | exact hT.drew.cells)
          ((go_at_call 10; refine (digits_res _ _ (by first | with_reducible exact Ha.out | with_reducible exact Hc.out) (by first | with_reducible exact Hb.out | with_reducible exact Hd.out) _).mono ?_; first | (rintro e wF ⟨v1, L1, rfl, d1, e1, l1, o1, hbl⟩; have hT := hT.drew.later hbl; clear hbl) | (rintro e wF ⟨v2, L2, rfl, d2, e2, l2, o2, hbl⟩; have hT := hT.later hbl; have o1 := o1.later hbl; clear hbl)))
        have s1 := o1.seg
        have s2 := o2.seg
        have D1 := Lib.hid d1; have D2 := Lib.hid d2; have X1 := Lib.hid e1; have X2 := Lib.hid e2
        clear o1 o2 d1 d2 e1 e2 hw
        have hl4 := hT.1.lt
        obtain ⟨c0, c1, c2, c3, _⟩ := hT.cells
        go_wp2_with fail
        refine (rcompare_any a b c d Ha.out Hb.out Hc.out Hd.out _).mono ?_
        rintro e wG ⟨rfl, B⟩
        have hT := hT.later B; have s1 := s1.later B; have s2 := s2.later B
        clear B c0 c1 c2 c3 hl4
        obtain ⟨n, hn⟩ : ∃ n, n = ord (num (a, b)) (num (c, d)) := ⟨_, rfl⟩
        rw [← hn]
        have HN := Lib.hid hn
        clear hn
        have hl4 := hT.1.lt
        obtain ⟨c0, c1, c2, c3, _⟩ := hT.cells
        go_wp2_with fail
        refine (add_any a b c d Ha.out Hb.out Hc.out Hd.out _).mono ?_
        rintro e wH ⟨hr, B⟩
        obtain ⟨A1, B1, E1, rfl, hf1⟩ := fits_of hr
        have F1 := Lib.hid hf1
        have hT := hT.later B; have s1 := s1.later B; have s2 := s2.later B
        clear B c0 c1 c2 c3 hl4 hr hf1
        have hl4 := hT.1.lt
        obtain ⟨c0, c1, c2, c3, _⟩ := hT.cells
        go_wp2_with fail
        refine (sub_any a b c d Ha.out Hb.out Hc.out Hd.out _).mono ?_
        rintro e wI ⟨hr, B⟩
        obtain ⟨A2, B2, E2, rfl, hf2, hz2⟩ : ∃ A2 B2 E2, e = .returned (.tuple #[WV A2 B2, .int .i64 E2]) ∧ (num (c, d) ≤ num (a, b) → Fits (num (a, b) - num (c, d)) A2 B2 E2) ∧ (¬ num (c, d) ≤ num (a, b) → A2 = 0 ∧ B2 = 0 ∧ E2 = 110) := by
          rcases hr.fits with ⟨hc, rfl⟩ | ⟨hc, rfl⟩
          · refine ⟨_, _, _, rfl, fun _ v L w s d hv => ?_, fun h => absurd hc h⟩
            rw [← hv]
            exact like_ok v L w s d (by rw [hv]; have := (num_pos (p := (a, b)) ⟨Ha.out, Hb.out⟩).2; have := (num_pos (p := (c, _)) ⟨Hc.out, Hd.out⟩).1; omega)
          · exact ⟨_, _, _, rfl, fun h => absurd h hc, fun _ => ⟨rfl, rfl, rfl⟩⟩
        have F2 := Lib.hid hf2; have Z2 := Lib.hid hz2
        have b8 := Blk.nw B
        have hT := (hT.alloc _).later B; have s1 := (s1.alloc _).later B; have s2 := (s2.alloc _).later B
        obtain ⟨k8, hk8⟩ : ∃ k, k = wH.heap.size := ⟨_, rfl⟩
        rw [← hk8] at b8 ⊢
        clear B c0 c1 c2 c3 hl4 hr hf2 hz2 hk8
        have hl4 := hT.1.lt
        obtain ⟨c0, c1, c2, c3, _⟩ := hT.cells
        go_wp2_with fail
        refine (mul_any a b c d Ha.out Hb.out Hc.out Hd.out _).mono ?_
        rintro e wJ ⟨hr, B⟩
        obtain ⟨A3, B3, E3, rfl, hf3⟩ := fits_of hr
        have F3 := Lib.hid hf3
        have b8 := b8.al B
        have b10 := Blk.nw B
        have hT := (hT.alloc _).later B; have s1 := (s1.alloc _).later B; have s2 := (s2.alloc _).later B
        obtain ⟨k10, hk10⟩ : ∃ k, k = wI.heap.size := ⟨_, rfl⟩
        rw [← hk10] at b10 ⊢
        clear B c0 c1 c2 c3 hl4 hr hf3 hk10
        go_upto_region 12 with fail
        have hT : Eight w k4 a b c d k8 A1 B1 k10 A2 B2 wJ.heap.size A3 B3 v1 L1 v2 L2 (wJ.alloc (.cells #[.int .u64 A3, .int .u64 B3] 26)) := ⟨hT.alloc _, b8.alloc _, b10.alloc _, Blk.new _ _ _, s1.alloc _, s2.alloc _⟩
        obtain ⟨k12, hk12⟩ : ∃ k, k = wJ.heap.size := ⟨_, rfl⟩
        obtain ⟨wK, hwK⟩ : ∃ w5, w5 = wJ.alloc (.cells #[.int .u64 A3, .int .u64 B3] 26) := ⟨_, rfl⟩
        rw [← hk12, ← hwK] at hT ⊢
        clear hk12 hwK s1 s2 b8 b10
        have tnn : (n != n) = false := by simp
        go_region_held3 (fun w' => w'.cell? ⟨k4, 0, none⟩ = some (.int .u64 a) ∧ w'.cell? ⟨k4, 1, none⟩ = some (.int .u64 b) ∧ w'.cell? ⟨k4, 2, none⟩ = some (.int .u64 c) ∧ w'.cell? ⟨k4, 3, none⟩ = some (.int .u64 d) ∧ w'.cell? ⟨k8, 0, none⟩ = some (.int .u64 A1) ∧ w'.cell? ⟨k8, 1, none⟩ = some (.int .u64 B1) ∧ w'.cell? ⟨k10, 0, none⟩ = some (.int .u64 A2) ∧ w'.cell? ⟨k10, 1, none⟩ = some (.int .u64 B2) ∧ w'.cell? ⟨k12, 0, none⟩ = some (.int .u64 A3) ∧ w'.cell? ⟨k12, 1, none⟩ = some (.int .u64 B3) ∧ Eight w k4 a b c d k8 A1 B1 k10 A2 B2 k12 A3 B3 v1 L1 v2 L2 w')
          (first | exact hT.cells | exact hT.drew.cells)
          (first
            | (go_at_call 15; refine (compare_any a b c d Hb.out Hd.out _).mono ?_; rintro e wL ⟨he, hbl⟩; rw [← HN.out] at he; subst he; have hT := hT.drew.later hbl; clear hbl)
            | (go_at_call 17; refine (plus_res v1 v2 L1 L2 _ hT.2.2.2.2.1 hT.2.2.2.2.2 D1.out D2.out (by omega) (by omega)).mono ?_; rintro e wL ⟨vP, LP, rfl, dP, eP, oP, hbl⟩; rw [X1.out, X2.out] at eP; have PP := Lib.hid eP; have hT := hT.later hbl; clear hbl eP)
            | (go_at_call 18; refine (times_res v1 v2 L1 L2 _ hT.2.2.2.2.1 hT.2.2.2.2.2 D1.out D2.out (by omega) (by omega)).mono ?_; rintro e wL ⟨vQ, LQ, rfl, dQ, eQ, lQ, oQ, hbl⟩; rw [X1.out, X2.out] at eQ; have QQ := Lib.hid eQ; have hT := hT.later hbl; clear hbl eQ)
            | (go_at_call 16; (first | (refine (F3.out vQ LQ _ oQ.seg dQ QQ.out).mono ?_) | (refine (F1.out vP LP _ oP.seg dP PP.out).mono ?_)); rintro e wL ⟨rfl, hbl⟩; have hT := hT.later hbl; clear hbl))
        clear tnn
        by_cases hn0 : n < 0
        · have tn : decide (n < 0) = true := by simpa using hn0
          have hlt2 : ¬ num (c, d) ≤ num (a, b) := fun h => by rw [HN.out] at hn0; unfold ord at hn0; rw [if_neg (by omega)] at hn0; split at hn0 <;> omega
          obtain ⟨rfl, rfl, rfl⟩ := Z2.out (by omega)
          clear hlt2
          go_upto_region 15 with fail
          have heq : ∀ x y w, (binOp .neq 26 (.agg #[.int .u64 x, .int .u64 y]) (.agg #[.int .u64 x, .int .u64 y])).run Try.prog w = .ok (.bool false) w := fun x y w => by rw [neq_wide]; simp [sameW]
          go_region_held3 (fun w' => w'.cell? ⟨k4, 0, none⟩ = some (.int .u64 a) ∧ w'.cell? ⟨k4, 1, none⟩ = some (.int .u64 b) ∧ w'.cell? ⟨k4, 2, none⟩ = some (.int .u64 c) ∧ w'.cell? ⟨k4, 3, none⟩ = some (.int .u64 d) ∧ w'.cell? ⟨k8, 0, none⟩ = some (.int .u64 A1) ∧ w'.cell? ⟨k8, 1, none⟩ = some (.int .u64 B1) ∧ w'.cell? ⟨k10, 0, none⟩ = some (.int .u64 0) ∧ w'.cell? ⟨k10, 1, none⟩ = some (.int .u64 0) ∧ w'.cell? ⟨k12, 0, none⟩ = some (.int .u64 A3) ∧ w'.cell? ⟨k12, 1, none⟩ = some (.int .u64 B3) ∧ Eight w k4 a b c d k8 A1 B1 k10 0 0 k12 A3 B3 v1 L1 v2 L2 w')
            (first | exact hT.cells | exact hT.drew.cells)
            ((go_at_call 19; refine (of_any _ _).mono ?_; rintro e wM ⟨rfl, hbl⟩; have hT := hT.drew.later hbl; clear hbl))
          all_goals
            go_wp2_with fail
            go_roundw
            case rel => exact ⟨m + 1, by omega, by omega, by go_num, hT.1.2⟩
            case measure => simp [intOf]; omega
        · have tn : decide (n < 0) = false := by simpa using hn0
          have hle : num (c, d) ≤ num (a, b) := by
            apply Classical.byContradiction
            intro h
            rw [HN.out, ord_lt (by omega)] at hn0
            omega
          have HLE := Lib.hid hle
          clear hle
          go_upto_region 17 with fail
          go_region_held3 (fun w' => w'.cell? ⟨k4, 0, none⟩ = some (.int .u64 a) ∧ w'.cell? ⟨k4, 1, none⟩ = some (.int .u64 b) ∧ w'.cell? ⟨k4, 2, none⟩ = some (.int .u64 c) ∧ w'.cell? ⟨k4, 3, none⟩ = some (.int .u64 d) ∧ w'.cell? ⟨k8, 0, none⟩ = some (.int .u64 A1) ∧ w'.cell? ⟨k8, 1, none⟩ = some (.int .u64 B1) ∧ w'.cell? ⟨k10, 0, none⟩ = some (.int .u64 A2) ∧ w'.cell? ⟨k10, 1, none⟩ = some (.int .u64 B2) ∧ w'.cell? ⟨k12, 0, none⟩ = some (.int .u64 A3) ∧ w'.cell? ⟨k12, 1, none⟩ = some (.int .u64 B3) ∧ Eight w k4 a b c d k8 A1 B1 k10 A2 B2 k12 A3 B3 v1 L1 v2 L2 w')
            (first | exact hT.cells | exact hT.drew.cells)
            (first
              | (go_at_call 20; refine (minus_res v1 v2 L1 L2 _ hT.2.2.2.2.1.drew hT.2.2.2.2.2.drew D1.out D2.out (by omega) (by rw [X1.out, X2.out]; exact HLE.out)).mono ?_; rintro e wM ⟨vP, LP, rfl, dP, eP, oP, hbl⟩; rw [X1.out, X2.out] at eP; have PP := Lib.hid eP; have hT := hT.drew.later hbl; clear hbl eP)
              | (go_at_call 16; refine (F2.out HLE.out vP LP _ oP.seg dP PP.out).mono ?_; rintro e wM ⟨rfl, hbl⟩; have hT := hT.later hbl; clear hbl))
          all_goals
            go_wp2_with fail
            go_roundw
            case rel => exact ⟨m + 1, by omega, by omega, by go_num, hT.1.2⟩
            case measure => simp [intOf]; omega
    · go_wp2_with fail
      go_ret
      exact ⟨rfl, hB⟩
end Go.Proofs.Ytfknocgmobddmaa
