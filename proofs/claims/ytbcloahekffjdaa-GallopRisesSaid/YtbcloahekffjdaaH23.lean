/- Patterns broken: a permutation within. -/
import Derived.Test.YtbcloahekffjdaaH15
import Derived.Shelf.SlSortCmp.Xorshift
import Derived.Deep.CutBlock
namespace Go.Proofs
open Go.Shelf
def Try.sortU_ren : Go.Shelf.Ren := ⟨fun | 15 => 38 | 28 => 45 | 29 => 46 | 47 => 59 | 48 => 60 | n => n, fun | 0 => 0 | 3 => 3 | 4 => 4 | 5 => 5 | 9 => 9 | 39 => 47 | 53 => 63 | 55 => 27 | 66 => 74 | 76 => 80 | n => n, fun | n => n⟩
theorem Try.sortU48 : SlLaysF0.n48 Try.prog Try.sortU_ren := {
  mixed := by kernel_rfl
  f48 := Try.func60.trans (congrArg some (by kernel_rfl))
  t0 := Try.underlying0
  a0 := Try.isAgg0
  z0 := Try.sizeOf0
  v0 := Try.zeroValue0
  t39 := Try.underlying47
  a39 := Try.isAgg47
  z39 := Try.sizeOf47
  v39 := Try.zeroValue47
  t55 := Try.underlying27
  a55 := Try.isAgg27
  z55 := Try.sizeOf27
  v55 := Try.zeroValue27
  t66 := Try.underlying74
  a66 := Try.isAgg74
  z66 := Try.sizeOf74
  v66 := Try.zeroValue74
  t76 := Try.underlying80
  a76 := Try.isAgg80
  z76 := Try.sizeOf80
  v76 := Try.zeroValue80
}
theorem Try.sortU47 : SlLaysF0.n47 Try.prog Try.sortU_ren := {
  mixed := by kernel_rfl
  f15 := Try.func38.trans (congrArg some (by kernel_rfl))
  f28 := Try.func45.trans (congrArg some (by kernel_rfl))
  f29 := Try.func46.trans (congrArg some (by kernel_rfl))
  f47 := Try.func59.trans (congrArg some (by kernel_rfl))
  t3 := Try.underlying3
  a3 := Try.isAgg3
  z3 := Try.sizeOf3
  v3 := Try.zeroValue3
  t4 := Try.underlying4
  a4 := Try.isAgg4
  z4 := Try.sizeOf4
  v4 := Try.zeroValue4
  t5 := Try.underlying5
  a5 := Try.isAgg5
  z5 := Try.sizeOf5
  v5 := Try.zeroValue5
  t9 := Try.underlying9
  a9 := Try.isAgg9
  z9 := Try.sizeOf9
  v9 := Try.zeroValue9
  t39 := Try.underlying47
  a39 := Try.isAgg47
  z39 := Try.sizeOf47
  v39 := Try.zeroValue47
  t53 := Try.underlying63
  a53 := Try.isAgg63
  z53 := Try.sizeOf63
  v53 := Try.zeroValue63
  t55 := Try.underlying27
  a55 := Try.isAgg27
  z55 := Try.sizeOf27
  v55 := Try.zeroValue27
}
end Go.Proofs
namespace Go.Proofs.Kit
open Go.RowKit
/-- A row that is sorted, and a seed beside it. -/
structure SY (ti tn : TypeId) (B g n cap sb : Nat) (w0 : World) (d : Array Int) (w : World) : Prop where
  sr : SR ti B g n cap w0 d w
  kb : ∃ X : Nat, X < 18446744073709551616 ∧ Blk w sb #[.int .u64 (X : Int)] tn
  new : w0.heap.size ≤ sb
section
variable {ti tn : TypeId} {B g n cap sb : Nat} {w0 w : World} {d : Array Int}
theorem SY.set (h : SY ti tn B g n cap sb w0 d w) (ht : ti ≠ tn) {R : Nat} (hR : R < 18446744073709551616) (m : Nat) : SY ti tn B g n cap sb w0 d ((w.setCell ⟨sb, 0, none⟩ (.int .u64 (R : Int))).drewN m) := by
  obtain ⟨X, hX, hb⟩ := h.kb
  refine ⟨⟨h.sr.len, h.sr.ow.same fun g' hg' => Below.heap_setCell _ _ _ _ (by rintro rfl; exact h.sr.ow.ne_blk hb ht hg'), (h.sr.but.set _ _ (fun hl => by have := h.new; simp at hl; omega)).drewN m⟩, ⟨R, hR, ?_⟩, h.new⟩
  have := hb.set 0 (.int .u64 (R : Int))
  simp only [List.setIfInBounds_toArray, List.set_cons_zero] at this
  exact this
theorem SY.swpD (h : SY ti tn B g n cap sb w0 d w) (ht : ti ≠ tn) {i j : Nat} (hi : i < n) (hj : j < n) {x y : Int} (hx : x = d[i]!) (hy : y = d[j]!) (m : Nat) : SY ti tn B g n cap sb w0 (Sort.swp d i j) (((w.drewN m).setCell ⟨g, i, none⟩ (.int .u64 y)).setCell ⟨g, j, none⟩ (.int .u64 x)) := by
  obtain ⟨X, hX, hb⟩ := h.kb
  have hne : sb ≠ g := fun e => h.sr.ow.ne_blk hb ht (by rw [e]; rfl)
  have hb1 : Blk (w.drewN m) sb #[.int .u64 (X : Int)] tn := hb
  exact ⟨h.sr.swpN hi hj hx hy m, ⟨X, hX, (hb1.other hne _).other hne _⟩, h.new⟩
end
theorem pow_le (l : Nat) (h : 1 ≤ l) : 1 ≤ 1 <<< Sort.bitsLen l ∧ 1 <<< Sort.bitsLen l ≤ 2 * l := by
  unfold Sort.bitsLen
  rw [if_neg (by omega), Nat.one_shiftLeft, Nat.pow_succ]
  have h1 := Nat.log2_self_le (n := l) (by omega)
  have h2 : 0 < 2 ^ l.log2 := Nat.pow_pos (by omega)
  omega
end Go.Proofs.Kit
namespace Go.Proofs.Ytbcloahekffjdaa
open Go.RowKit Go.Proofs.Kit Go.Shelf
theorem xor_any (sb X : Nat) (hX : X < 18446744073709551616) (w : World) (hc : w.cell? ⟨sb, 0, none⟩ = some (.int .u64 X)) (hf : w.frozen? ⟨sb, 0, none⟩ = false) :
    Calls Try.prog 60 #[.pointer (some ⟨sb, 0, none⟩)] w fun e w' => ∃ R : Nat, e = .returned (.int .u64 (R : Int)) ∧ R < 18446744073709551616 ∧ w' = (w.setCell ⟨sb, 0, none⟩ (.int .u64 (R : Int))).drewN 3 :=
  (AnyF.xorshift_Next Try.sortU48 sb 0 X hX w hc hf).mono fun _ _ ⟨h1, h2⟩ => ⟨_, h1, Sort.xorNextN_lt X hX, h2⟩
theorem pow_any (l : Nat) (hl : l < 4611686018427387904) (w : World) : Calls Try.prog 59 #[.int .i64 (l : Int)] w fun e w' => e = .returned (.int .u64 ((1 <<< Sort.bitsLen l : Nat) : Int)) ∧ w' = w :=
  AnyF.nextPowerOfTwo Try.sortU47 l hl w
abbrev SYt (B g n cap sb : Nat) (w0 : World) (d : Array Int) (w : World) : Prop := SY 27 74 B g n cap sb w0 d w
/-- A permutation within. -/
def BpP (B g n cap a b : Nat) (w0 : World) (d0 : Array Int) (e : Ending) (w' : World) : Prop :=
  ∃ d : Array Int, e = .returned (.tuple #[]) ∧ Sort.PermIn a b d0 d ∧ Hid (SRt B g n cap w0 d w')
set_option maxHeartbeats 8000000 in
theorem break_any (B g n cap a b : Nat) (d0 : Array Int) (w0 w : World) (h : SRt B g n cap w0 d0 w) (hab : a + 12 < b) (hb : b ≤ n) (hn : n ≤ 1000000) :
    Calls Try.prog 49 #[.slice (some ⟨g, 0, none⟩) n cap, .int .i64 a, .int .i64 b] w (BpP B g n cap a b w0 d0) := by
  have hbs : b ≤ d0.size := by rw [h.len]; exact hb
  obtain ⟨l, hl⟩ : ∃ l, l = b - a := ⟨_, rfl⟩
  have hal : (b : Int) - (a : Int) = (l : Int) := by omega
  have hq : (l : Int).tdiv 4 = ((l / 4 : Nat) : Int) := by rw [Int.tdiv_eq_ediv_of_nonneg (by omega)]; omega
  obtain ⟨q, hq'⟩ : ∃ q, q = l / 4 := ⟨_, rfl⟩
  rw [← hq'] at hq
  have hq1 : 3 ≤ q := by omega
  have hq2 : 4 * q ≤ l := by omega
  have hlb : a + l = b := by omega
  have hq3 : 13 ≤ l := by omega
  obtain ⟨c, hc'⟩ : ∃ c, c = a + q * 2 - 1 := ⟨_, rfl⟩
  have hc : (a : Int) + (q : Int) * 2 - 1 = (c : Int) := by omega
  have hc2 : (a : Int) + (q : Int) * 2 + 1 = (c : Int) + 2 := by omega
  have hwl : IntKind.u64.wrap (l : Int) = (l : Int) := by rw [IntKind.wrap_u64]; omega
  have hpow := pow_any l (by omega)
  have hM := pow_le l (by omega)
  obtain ⟨M, hM'⟩ : ∃ M, M = 1 <<< Sort.bitsLen l := ⟨_, rfl⟩
  rw [← hM'] at hpow hM
  have hsy : SYt B g n cap w.heap.size w0 d0 (w.alloc (.cells #[.int .u64 (l : Int)] 74)) := ⟨h.alloc _, ⟨l, by omega, Blk.new _ _ _⟩, h.but.size⟩
  have H := Lib.hid hsy
  clear h hsy hl hq' hc' hM'
  have h8 : decide (8 ≤ (l : Int)) = true := by rw [decide_eq_true_eq]; omega
  go_enter Try.func49, Try.ntmps49
  go_wp2_with (go_at_call 59; refine (hpow _).mono ?_; rintro e w' ⟨rfl, rfl⟩)
  clear hpow
  go_loopw [9, 10] (fun s _ wr => ∃ (i : Nat) (d : Array Int), c ≤ i ∧ s = .int .i64 (i : Int) ∧ Sort.PermIn a b d0 d ∧ Hid (SYt B g n cap w.heap.size w0 d wr)) (fun s _ _ => c + 3 - (intOf s).toNat)
  case atStart => exact ⟨c, d0, Nat.le_refl _, rfl, Sort.permIn_refl _ _ _, H⟩
  case round =>
    obtain ⟨i, d, hci, rfl, hp, HS⟩ := hrel
    clear H
    by_cases hi : i ≤ c + 2
    · have hi' : decide ((i : Int) ≤ (c : Int) + 2) = true := by rw [decide_eq_true_eq]; omega
      obtain ⟨X, hX, kX⟩ := HS.out.kb
      obtain ⟨wx, hwx⟩ : ∃ wx, wx = wr := ⟨_, rfl⟩
      have hxor0 := xor_any w.heap.size X hX wr (kX.cell 0) (kX.frozen 0)
      have hib : i < b := by omega
      have hia : a ≤ i := by omega
      clear hwx wx kX
      have hxor : Calls Try.prog 60 #[.pointer (some ⟨w.heap.size, 0, none⟩)] wr fun e w' => ∃ O : Nat, e = .returned (.int .u64 (O : Int)) ∧ Hid (O < 18446744073709551616 ∧ SYt B g n cap w.heap.size w0 d w') :=
        hxor0.mono fun e w' ⟨R, h1, h2, h3⟩ => ⟨R, h1, Lib.hid ⟨h2, by rw [h3]; exact HS.out.set (by decide) h2 3⟩⟩
      clear hxor0
      go_wp2_with fail
      refine hxor.mono ?_
      rintro e w2 ⟨R, rfl, HR⟩
      obtain ⟨O, hO⟩ : ∃ O : Nat, O = R &&& (M - 1) := ⟨_, rfl⟩
      have lO : O ≤ M - 1 := by rw [hO]; exact Nat.and_le_right
      have eAnd : bits .and .u64 (R : Int) ((M : Int) - 1) = (O : Int) := by
        rw [show ((M : Int) - 1) = ((M - 1 : Nat) : Int) by omega, bits_and_u64_nat _ _ HR.out.1 (by omega), hO]
      have S2 := Lib.hid HR.out.2
      have hwM : IntKind.u64.wrap ((M : Int) - 1) = (M : Int) - 1 := by rw [IntKind.wrap_u64]; omega
      clear hO HS hxor HR
      by_cases hLO : l ≤ O
      · have hLO' : decide ((l : Int) ≤ (O : Int)) = true := by rw [decide_eq_true_eq]; omega
        have hoi : (a : Int) + ((O : Int) - (l : Int)) = ((a + (O - l) : Nat) : Int) := by omega
        obtain ⟨p, hp0⟩ : ∃ p, p = a + (O - l) := ⟨_, rfl⟩
        rw [← hp0] at hoi
        have hpa : a ≤ p := by omega
        have hpb : p < b := by omega
        have ci := S2.out.sr.cell (i := i) (by omega)
        have cp := S2.out.sr.cell (i := p) (by omega)
        have fi := S2.out.sr.frozen (i := i) (by omega)
        have fp := S2.out.sr.frozen (i := p) (by omega)
        have hgl := S2.out.sr.lt
        obtain ⟨x, hx⟩ : ∃ x, x = d[i]! := ⟨_, rfl⟩
        obtain ⟨y, hy⟩ : ∃ y, y = d[p]! := ⟨_, rfl⟩
        rw [← hx] at ci
        rw [← hy] at cp
        have HX := Lib.hid hx
        have HY := Lib.hid hy
        clear hx hy hp0
        by_cases hip : p = i
        · subst hip
          clear ci fi
          go_wp2
          go_region
          all_goals
            go_wp2
            go_roundw
            case rel => exact ⟨p + 1, _, by omega, by go_num, Sort.permIn_trans _ _ _ _ _ hp (Sort.swp_permIn d a b p p (by omega) (by omega) (by omega) (by omega) (by rw [hp.1]; exact hbs)), Lib.hid (S2.out.swpD (by decide) (by omega) (by omega) HY.out HY.out _)⟩
            case measure => simp [intOf]; omega
        · have hne : i ≠ p := fun e => hip e.symm
          go_wp2
          go_region
          all_goals
            go_wp2
            go_roundw
            case rel => exact ⟨i + 1, _, by omega, by go_num, Sort.permIn_trans _ _ _ _ _ hp (Sort.swp_permIn d a b i p (by omega) (by omega) (by omega) (by omega) (by rw [hp.1]; exact hbs)), Lib.hid (S2.out.swpD (by decide) (by omega) (by omega) HX.out HY.out _)⟩
            case measure => simp [intOf]; omega
      · have hLO' : decide ((l : Int) ≤ (O : Int)) = false := by rw [decide_eq_false_iff_not]; omega
        have hoi : (a : Int) + (O : Int) = ((a + (O) : Nat) : Int) := by omega
        obtain ⟨p, hp0⟩ : ∃ p, p = a + (O) := ⟨_, rfl⟩
        rw [← hp0] at hoi
        have hpa : a ≤ p := by omega
        have hpb : p < b := by omega
        have ci := S2.out.sr.cell (i := i) (by omega)
        have cp := S2.out.sr.cell (i := p) (by omega)
        have fi := S2.out.sr.frozen (i := i) (by omega)
        have fp := S2.out.sr.frozen (i := p) (by omega)
        have hgl := S2.out.sr.lt
        obtain ⟨x, hx⟩ : ∃ x, x = d[i]! := ⟨_, rfl⟩
        obtain ⟨y, hy⟩ : ∃ y, y = d[p]! := ⟨_, rfl⟩
        rw [← hx] at ci
        rw [← hy] at cp
        have HX := Lib.hid hx
        have HY := Lib.hid hy
        clear hx hy hp0
        by_cases hip : p = i
        · subst hip
          clear ci fi
          go_wp2
          go_region
          all_goals
            go_wp2
            go_roundw
            case rel => exact ⟨p + 1, _, by omega, by go_num, Sort.permIn_trans _ _ _ _ _ hp (Sort.swp_permIn d a b p p (by omega) (by omega) (by omega) (by omega) (by rw [hp.1]; exact hbs)), Lib.hid (S2.out.swpD (by decide) (by omega) (by omega) HY.out HY.out _)⟩
            case measure => simp [intOf]; omega
        · have hne : i ≠ p := fun e => hip e.symm
          go_wp2
          go_region
          all_goals
            go_wp2
            go_roundw
            case rel => exact ⟨i + 1, _, by omega, by go_num, Sort.permIn_trans _ _ _ _ _ hp (Sort.swp_permIn d a b i p (by omega) (by omega) (by omega) (by omega) (by rw [hp.1]; exact hbs)), Lib.hid (S2.out.swpD (by decide) (by omega) (by omega) HX.out HY.out _)⟩
            case measure => simp [intOf]; omega
    · have hi' : decide ((i : Int) ≤ (c : Int) + 2) = false := by rw [decide_eq_false_iff_not]; omega
      go_wp2
      go_end0
      exact ⟨d, rfl, hp, Lib.hid HS.out.sr⟩
end Go.Proofs.Ytbcloahekffjdaa
