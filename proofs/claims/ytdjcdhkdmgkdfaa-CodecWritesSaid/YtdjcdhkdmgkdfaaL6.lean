/- CodecWrites: the law's walk. -/
import Derived.Test.YtdjcdhkdmgkdfaaF1
import Derived.Test.YtdjcdhkdmgkdfaaL4
namespace Go.Proofs.Ytdjcdhkdmgkdfaa
open Go.RowKit Go.Proofs.Kit Go.Shelf

/-- An argument that is a slice of strings: its cells. -/
def ArgS (w : World) (o : Option Addr) (ss : List ByteArray) : Prop := (o = none ∧ ss = []) ∨ ∃ a, o = some a ∧ ∀ i (h : i < ss.length), w.cell? (a.add i) = some (.string ss[i]) ∧ ss[i].size ≤ 9223372036854775807
/-- A row that came in. -/
structure RowIn where
  o : Option Addr
  n : Nat
  c : Nat
  l : List Int
/-- It lies there, and fits. -/
def RowIn.At (w : World) (r : RowIn) : Prop := r.l.length = r.n ∧ r.n ≤ r.c ∧ r.c ≤ 9223372036854775807 ∧ ArgI .u64 w r.o r.c r.l ∧ ∀ x ∈ r.l, 0 ≤ x ∧ x < 18446744073709551616
def ArgR (w : World) (o : Option Addr) (rs : List RowIn) : Prop := (o = none ∧ rs = []) ∨ ∃ a, o = some a ∧ ∀ i (h : i < rs.length), w.cell? (a.add i) = some (.slice rs[i].o rs[i].n rs[i].c) ∧ rs[i].At w

set_option maxHeartbeats 1000000 in
theorem equalu_loop (b1 f1 n c1 c2 : Nat) (a2 : Addr) (l : List Int) (w : World) (hn : n ≤ 9223372036854775807) (e1 : l.length = n) (b1' : b1 < w.heap.size)
    (hc1 : ∀ i (h : i < l.length), w.cell? ⟨b1, f1 + i, none⟩ = some (.int .u64 l[i])) (hc2 : ∀ i (h : i < l.length), w.cell? (a2.add i) = some (.int .u64 l[i])) :
    Calls Try.prog 17 #[.slice (some ⟨b1, f1, none⟩) n c1, .slice (some a2) n c2] w fun e w' => e = .returned (.bool true) ∧ Below w.heap.size w w' := by
  have H1 := Lib.hid hc1; clear hc1
  have H2 := Lib.hid hc2; clear hc2
  have E1 := Lib.hid e1; clear e1
  go_enter Try.func17, Try.ntmps17
  go_wp2
  go_loopw [5, 13] (fun _ i wr => ∃ k : Nat, k ≤ n ∧ i = .int .i64 k ∧ Below w.heap.size w wr) (fun _ i _ => n - (intOf i).toNat)
  case atStart => exact ⟨0, Nat.zero_le _, rfl, Below.refl _ _⟩
  case round =>
    obtain ⟨k, hk, rfl, hB⟩ := hrel
    by_cases hlt : k < n
    · have k1 : k < l.length := by have := E1.out; omega
      have d1 : wr.cell? ⟨b1, f1 + k, none⟩ = some (.int .u64 l[k]) := (hB.cell (p := ⟨b1, f1 + k, none⟩) b1').trans (H1.out k k1)
      have d2 : wr.cell? (a2.add k) = some (.int .u64 l[k]) := (hB.cell (World.block_lt_of_cell? _ _ (H2.out k k1))).trans (H2.out k k1)
      obtain ⟨x, hx⟩ : ∃ x, x = l[k] := ⟨_, rfl⟩
      rw [← hx] at d1 d2
      clear hx
      go_wp2
      go_quiet (fail)
      go_wp2
      go_roundw
      case rel => exact ⟨k + 1, by omega, by go_num, below_drN hB _⟩
      case measure => simp [intOf]; omega
    · go_wp2
      go_ret
      exact ⟨rfl, hB⟩
theorem equalu_arg (v1 : Value) (l : List Int) (o2 : Option Addr) (n c : Nat) (w : World) (h1 : Seg .u64 w v1 l) (hn : l.length = n) (h2 : ArgI .u64 w o2 c l) :
    Calls Try.prog 17 #[v1, .slice o2 n c] w fun e w' => e = .returned (.bool true) ∧ Below w.heap.size w w' := by
  subst hn
  obtain ⟨o1, c1, rfl, hc1, hm1, a1⟩ := h1.shape
  rcases a1 with rfl | ⟨b1, f1, rfl, q1, a1⟩
  · exact (equalu_none o1 o2 c1 c w).mono fun e w' ⟨he, hw⟩ => ⟨he, hw ▸ Below.refl _ _⟩
  · rcases h2 with ⟨_, rfl, _⟩ | ⟨a, rfl, h2⟩
    · exact (equalu_none _ o2 c1 c w).mono fun e w' ⟨he, hw⟩ => ⟨he, hw ▸ Below.refl _ _⟩
    · exact equalu_loop b1 f1 _ c1 c a l w h1.1 rfl q1 a1 h2

set_option maxRecDepth 100000 in
set_option maxHeartbeats 8000000 in
theorem writes_true (o1 o2 o3 : Option Addr) (n1 n2 n3 c1 c2 c3 : Nat) (l1 : List Int) (ss : List ByteArray) (rs : List RowIn) (w : World)
    (e1 : l1.length = n1) (e2 : ss.length = n2) (e3 : rs.length = n3) (hm1 : n1 ≤ 9223372036854775807) (hm2 : n2 ≤ 9223372036854775807) (hm3 : n3 ≤ 9223372036854775807)
    (a1 : ArgI .u64 w o1 c1 l1) (a2 : ArgS w o2 ss) (a3 : ArgR w o3 rs) (b1 : ∀ x ∈ l1, 0 ≤ x ∧ x < 18446744073709551616) :
    Calls Try.prog 3 #[.slice o1 n1 c1, .slice o2 n2 c2, .slice o3 n3 c3] w fun e w' => e = .returned (.bool true) ∧ Below w.heap.size w w' := by
  have E1 := Lib.hid e1
  have E2 := Lib.hid e2
  have E3 := Lib.hid e3
  have A1 := Lib.hid a1
  have A2 := Lib.hid a2
  have A3 := Lib.hid a3
  have HB1 := Lib.hid b1
  clear e1 e2 e3 a1 a2 a3 b1
  go_enter Try.func3, Try.ntmps3
  go_wp2_with fail
  refine (wakes_true _).mono ?_
  rintro e w1 ⟨rfl, B1⟩
  go_wp2_with fail
  go_loopw [7, 8, 21] (fun _ _ i wr => ∃ k : Nat, k ≤ n1 ∧ i = .int .i64 (k : Int) ∧ Below w.heap.size w wr) (fun _ _ i _ => n1 - (intOf i).toNat)
  case atStart => exact ⟨0, by omega, rfl, B1⟩
  case round =>
    obtain ⟨k, hk, rfl, hB⟩ := hrel
    by_cases hlt : k < n1
    · have hkl : k < l1.length := by have := E1.out; omega
      obtain ⟨a, rfl, ha⟩ := A1.out.resolve_left (fun e => by rw [e.2.1] at hkl; simp at hkl)
      have d := ha k hkl
      have d2 := (hB.cell (World.block_lt_of_cell? _ _ d)).trans d
      have hx := HB1.out _ (List.getElem_mem hkl)
      obtain ⟨N, hN⟩ : ∃ N : Nat, N = l1[k].toNat := ⟨_, rfl⟩
      have hNi : l1[k] = (N : Int) := by omega
      have hN64 : N < 18446744073709551616 := by omega
      rw [hNi] at d2
      clear d hx hNi hN ha hkl
      by_cases h20 : k < 20
      · go_wp2_with fail
        refine (number_any N hN64 _).mono ?_
        rintro e w2 ⟨v2, rfl, q2, z2⟩
        have B2 := hB.trans (z2.mono hB.size)
        go_wp2_with fail
        refine (rnumber_any N hN64 _).mono ?_
        rintro e w3 ⟨v3, rfl, q3, z3⟩
        have B3 := B2.trans (z3.mono B2.size)
        have q2' := q2.later z3
        go_wp2_with fail
        refine (equalb_same _ _ _ _ q2'.seg q3.seg).mono ?_
        rintro e w4 ⟨rfl, z4⟩
        have B4 := B3.trans (z4.mono B3.size)
        clear q2 q2' q3 z2 z3 z4 B2 B3 d2
        go_wp2_with fail
        go_roundw
        case rel => exact ⟨k + 1, by omega, by go_num, B4⟩
        case measure => simp [intOf]; omega
      · go_wp2_with fail
        go_roundw
        case rel => exact ⟨k + 1, by omega, by go_num, hB⟩
        case measure => simp [intOf]; omega
    · go_wp2_with fail
      obtain ⟨wo, rfl⟩ : ∃ wo : World, wo = wr := ⟨_, rfl⟩
      go_loopw [9, 10, 11, 12, 13, 14, 39] (fun _ _ _ _ _ _ i wr => ∃ k : Nat, k ≤ n2 ∧ k ≤ 6 ∧ i = .int .i64 (k : Int) ∧ Below w.heap.size w wr) (fun _ _ _ _ _ _ i _ => n2 - (intOf i).toNat)
      case atStart => exact ⟨0, by omega, by omega, rfl, hB⟩
      case round =>
        obtain ⟨k2, hk2, hk6, rfl, hB2⟩ := hrel
        clear hB
        by_cases hgo : k2 < n2 ∧ ¬ k2 = 6
        · obtain ⟨hlt2, h6⟩ := hgo
          have hkl : k2 < ss.length := by have := E2.out; omega
          obtain ⟨a, rfl, ha⟩ := A2.out.resolve_left (fun e => by rw [e.2] at hkl; simp at hkl)
          have d := (ha k2 hkl).1
          have hs63 := (ha k2 hkl).2
          have d2 := (hB2.cell (World.block_lt_of_cell? _ _ d)).trans d
          obtain ⟨s, hs⟩ : ∃ s, s = ss[k2] := ⟨_, rfl⟩
          rw [← hs] at d2 hs63
          clear d hs ha hkl
          have t6 : ((k2 : Int) == 6) = false := by simp; omega
          have h6' : k2 < 6 := by omega
          clear h6
          by_cases h5 : s.size ≤ 5000
          · by_cases hT4 : s.size ≤ 4000
            · go_wp2_with fail
              refine (text_any s hT4 _).mono ?_
              rintro e w2 ⟨v2, rfl, q2, z2⟩
              have B2 := hB2.trans (z2.mono hB2.size)
              go_wp2_with fail
              refine (rtext_any s (by omega) _).mono ?_
              rintro e w3 ⟨v3, rfl, q3, z3⟩
              have B3 := B2.trans (z3.mono B2.size)
              have q2' := q2.later z3
              go_wp2_with fail
              refine (equalb_same _ _ _ _ q2'.seg q3.seg).mono ?_
              rintro e w4 ⟨rfl, z4⟩
              have B4 := B3.trans (z4.mono B3.size)
              clear q2 q2' q3 z2 z3 z4 B2 B3 d2
              go_wp2_with fail
              go_roundw
              case rel => exact ⟨k2 + 1, by omega, by omega, by go_num, B4⟩
              case measure => simp [intOf]; omega
            · have hT5 : s.size ≤ 5000 := h5
              have hT4 : 4000 < s.size := by omega
              have hT63 := hs63
              go_wp2_with fail
              refine (text_long s hT4 hT63 _).mono ?_
              rintro e w2 ⟨rfl, rfl⟩
              go_wp2_with fail
              refine (rtext_any s hT5 _).mono ?_
              rintro e w3 ⟨v3, rfl, q3, z3⟩
              have B3 := hB2.trans (z3.mono hB2.size)
              go_wp2_with fail
              refine (equalb_same _ _ [] _ (Seg.nil _ _) (Seg.nil _ _)).mono ?_
              rintro e w4 ⟨rfl, z4⟩
              have B4 := B3.trans (z4.mono B3.size)
              clear q3 z3 z4 B3 d2
              go_wp2_with fail
              go_roundw
              case rel => exact ⟨k2 + 1, by omega, by omega, by go_num, B4⟩
              case measure => simp [intOf]; omega
          · go_wp2_with fail
            obtain ⟨T, hT⟩ : ∃ T, T = s.extract 0 5000 := ⟨_, rfl⟩
            rw [← hT]
            have hTs : T.size = 5000 := by rw [hT, ByteArray.size_extract]; omega
            have hT4 : 4000 < T.size := by omega
            have hT5 : T.size ≤ 5000 := by omega
            have hT63 : T.size ≤ 9223372036854775807 := by omega
            clear hT hTs
            refine (text_long T hT4 hT63 _).mono ?_
            rintro e w2 ⟨rfl, rfl⟩
            go_wp2_with fail
            refine (rtext_any T hT5 _).mono ?_
            rintro e w3 ⟨v3, rfl, q3, z3⟩
            have B3 := hB2.trans (z3.mono hB2.size)
            go_wp2_with fail
            refine (equalb_same _ _ [] _ (Seg.nil _ _) (Seg.nil _ _)).mono ?_
            rintro e w4 ⟨rfl, z4⟩
            have B4 := B3.trans (z4.mono B3.size)
            clear q3 z3 z4 B3 d2
            go_wp2_with fail
            go_roundw
            case rel => exact ⟨k2 + 1, by omega, by omega, by go_num, B4⟩
            case measure => simp [intOf]; omega
        · by_cases hlt2 : k2 < n2
          case' pos =>
            have t6 : ((k2 : Int) == 6) = true := by simp; omega
            have hkl : k2 < ss.length := by have := E2.out; omega
            obtain ⟨a, rfl, ha⟩ := A2.out.resolve_left (fun e => by rw [e.2] at hkl; simp at hkl)
            have d := (ha k2 hkl).1
            have d2 := (hB2.cell (World.block_lt_of_cell? _ _ d)).trans d
            obtain ⟨s, hs⟩ : ∃ s, s = ss[k2] := ⟨_, rfl⟩
            rw [← hs] at d2
            clear d hs ha hkl hgo
            go_wp2_with fail
            clear d2 t6
          case' neg =>
            clear hgo
            go_wp2_with fail
          all_goals
            obtain ⟨wp, rfl⟩ : ∃ wp : World, wp = wr := ⟨_, rfl⟩
            go_loopw [15, 16, 73] (fun _ _ i wr => ∃ k : Nat, k ≤ n3 ∧ i = .int .i64 (k : Int) ∧ Below w.heap.size w wr) (fun _ _ i _ => n3 - (intOf i).toNat)
            case atStart => exact ⟨0, by omega, rfl, hB2⟩
            case round =>
              obtain ⟨k3, hk3, rfl, hB3⟩ := hrel
              clear hB2
              by_cases hlt3 : k3 < n3
              · have hkl : k3 < rs.length := by have := E3.out; omega
                obtain ⟨a3, rfl, ha⟩ := A3.out.resolve_left (fun e => by rw [e.2] at hkl; simp at hkl)
                have d := (ha k3 hkl).1
                have hat := (ha k3 hkl).2
                obtain ⟨r, hr⟩ : ∃ r, r = rs[k3] := ⟨_, rfl⟩
                rw [← hr] at d hat
                have hblk := World.block_lt_of_cell? _ _ d
                have d3 := (hB3.cell hblk).trans d
                obtain ⟨ro, rn, rc, rl⟩ := r
                obtain ⟨r1, r2, r3, r4, r5⟩ := hat
                simp only at d d3 r1 r2 r3 r4 r5
                have R1 := Lib.hid r1
                have R4 := Lib.hid r4
                have R5 := Lib.hid r5
                have D := Lib.hid d
                clear d hr ha hkl r1 r4 r5
                by_cases h6 : k3 = 6
                · have t6 : ((k3 : Int) == 6) = true := by simp; omega
                  clear h6
                  go_wp2_with fail
                  go_ret
                  exact ⟨rfl, hB3⟩
                · have t6 : ((k3 : Int) == 6) = false := by simp; omega
                  clear h6
                  have hcl : ∀ m : Nat, m = min rn 40 → Calls Try.prog 14 #[.slice ro m rc] wr fun e w' => ∃ v', e = .returned v' ∧ Owns .u64 26 wr.heap.size w' v' (rl.take 40) ∧ Below wr.heap.size wr w' := fun m hm =>
                    cloneu_any ro m rc (rl.take 40) wr (by have := R1.out; simp; omega) (by omega) ((R4.out.later hB3).take 40)
                  have HCL := Lib.hid hcl
                  clear hcl
                  obtain ⟨m, hm⟩ : ∃ m, m = min rn 40 := ⟨_, rfl⟩
                  have hml : (rl.take 40).length = m := by have := R1.out; simp; omega
                  by_cases h40 : rn ≤ 40
                  case' pos =>
                    have hmr : m = rn := by omega
                    have HMM := Lib.hid hm
                    have HML0 := Lib.hid hml
                    clear hm hml
                    subst hmr
                    go_wp2_with fail
                  case' neg =>
                    have hmr : m = 40 := by omega
                    have HMM := Lib.hid hm
                    have HML0 := Lib.hid hml
                    clear hm hml
                    subst hmr
                    go_wp2_with fail
                  all_goals
                    have hml := HML0.out
                    refine (HCL.out _ HMM.out).mono ?_
                    rintro e x1 ⟨vL, rfl, oL, z1⟩
                    have B4 := hB3.trans (z1.mono hB3.size)
                    obtain ⟨L, hL⟩ : ∃ L, L = rl.take 40 := ⟨_, rfl⟩
                    have hb64 : ∀ x ∈ L, 0 ≤ x ∧ x < 18446744073709551616 := fun x hx => R5.out x (List.mem_of_mem_take (hL ▸ hx))
                    have hargL := fun (X : World) (hX : Below w.heap.size w X) => (R4.out.later hX).take 40
                    rw [← hL] at oL hml
                    simp only [← hL] at hargL
                    have sL := oL.seg
                    obtain ⟨pL, cL, rfl⟩ := oL.shape
                    rw [hml] at sL ⊢
                    have HB64 := Lib.hid hb64
                    have HARG := Lib.hid hargL
                    have HML := Lib.hid hml
                    clear HMM HML0 hml HCL hL hb64 hargL oL z1 d3
                    have hm40 : L.length ≤ 1000000 := by have := HML.out; omega
                    go_wp2_with fail
                    refine (row_any _ L _ sL HB64.out hm40).mono ?_
                    rintro e x2 ⟨v2, rfl, q2, z2⟩
                    have B5 := B4.trans (z2.mono B4.size)
                    have sL2 := sL.later z2
                    go_wp2_with fail
                    refine (rrow_any _ L _ sL2 HB64.out hm40).mono ?_
                    rintro e x3 ⟨v3, rfl, q3, z3⟩
                    have B6 := B5.trans (z3.mono B5.size)
                    have sL3 := sL2.later z3
                    have q2' := q2.later z3
                    go_wp2_with fail
                    refine (equalb_same _ _ _ _ q2'.seg q3.seg).mono ?_
                    rintro e x4 ⟨rfl, z4⟩
                    have B7 := B6.trans (z4.mono B6.size)
                    have sL4 := sL3.later z4
                    have d4 := (B7.cell hblk).trans D.out
                    clear q2 q2' q3 z2 z3 z4 B4 B5 B6 sL sL2 sL3
                    go_wp2_with fail
                    refine (equalu_arg _ L _ _ _ _ sL4 HML.out (HARG.out _ B7)).mono ?_
                    rintro e x5 ⟨rfl, z5⟩
                    have B8 := B7.trans (z5.mono B7.size)
                    clear z5 B7 sL4 d4
                    go_wp2_with fail
                    go_roundw
                    case rel => exact ⟨k3 + 1, by omega, by go_num, B8⟩
                    case measure => simp [intOf]; omega
              · go_wp2_with fail
                go_ret
                exact ⟨rfl, hB3⟩
end Go.Proofs.Ytdjcdhkdmgkdfaa
