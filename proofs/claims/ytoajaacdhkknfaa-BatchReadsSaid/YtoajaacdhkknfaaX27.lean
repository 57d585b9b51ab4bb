/- The reference's Of: what a line says. -/
import Derived.Test.YtoajaacdhkknfaaX26
import Derived.Test.YtoajaacdhkknfaaX23
import Derived.Test.YtoajaacdhkknfaaX17
namespace Go.Proofs.Kit
open Go.RowKit
theorem wd_len {s : List UInt8} (i : Nat) : (wd (wordsA s) i).length ≤ s.length := by
  unfold wd
  rw [List.getD_eq_getElem?_getD]
  cases h : (wordsA s)[i]? with
  | none => simp
  | some x => exact wordsA_mem s x (List.mem_of_getElem? h)
abbrev words9 : Array Value := #[.string ⟨#[]⟩, .string (lb (wordN 1)), .string (lb (wordN 2)), .string (lb (wordN 3)), .string (lb (wordN 4)), .string (lb (wordN 5)), .string (lb (wordN 6)), .string (lb (wordN 7)), .string (lb (wordN 8))]
theorem words9_at {w : World} {b : Nat} {t : TypeId} (h : Blk w b words9 t) {k : Nat} (hk : k < 9) : w.cell? ⟨b, k, none⟩ = some (.string (lb (wordN k))) := by
  rw [h.cell]
  have : k = 0 ∨ k = 1 ∨ k = 2 ∨ k = 3 ∨ k = 4 ∨ k = 5 ∨ k = 6 ∨ k = 7 ∨ k = 8 := by omega
  rcases this with rfl | rfl | rfl | rfl | rfl | rfl | rfl | rfl | rfl <;> rfl
end Go.Proofs.Kit
namespace Go.Proofs.Ytoajaacdhkknfaa
open Go.RowKit Go.Proofs.Kit Go.Shelf
theorem ends_of {so : Option Chg} {c : Chg} (h : so = some c) : Ending.returned (.tuple #[CV c, .bool true]) = .returned (.tuple #[CV (so.getD Chg.zero), .bool so.isSome]) := by rw [h]; rfl
theorem ends_no {so : Option Chg} (h : so = none) : Ending.returned (.tuple #[CV Chg.zero, .bool false]) = .returned (.tuple #[CV (so.getD Chg.zero), .bool so.isSome]) := by rw [h]; rfl
set_option hygiene false in
local macro "tlOf" x1:term:max x2:term:max x3:term:max x4:term:max : tactic => `(tactic| (
  obtain ⟨rb, hrb⟩ : ∃ b, b = rightB ⟨(k : Int), $x1, $x2, $x3, $x4⟩ := ⟨_, rfl⟩
  refine (rright_any (k : Int) $x1 $x2 $x3 $x4 z1 z2 z3 z4 _).mono ?_
  rw [← hrb]
  rintro e w7 ⟨rfl, g7⟩
  have HC7 := Lib.hid (HC.out.gr g7)
  have HB7 := Lib.hid (below_later HBN.out g7.below)
  clear g7
  have HRB := Lib.hid hrb
  clear hrb
  obtain ⟨c0, c1, c2, c3, c4, c5⟩ := HC7.out.fiveC
  have HRL := Lib.hid (show rightB ⟨(k : Int), $x1, $x2, $x3, $x4⟩ = true → _ from fun hr => rline_any k $x1 $x2 $x3 $x4 h1 (by omega) hr w7)
  obtain ⟨lx, hlx⟩ : ∃ r, r = lineB ⟨(k : Int), $x1, $x2, $x3, $x4⟩ := ⟨_, rfl⟩
  rw [← hlx] at HRL
  have HLX := Lib.hid hlx
  clear hlx
  have HNX : Hid ((rb = true → lx ≠ s) → ∀ j, 1 ≤ j → j < k + 1 → wd R 0 = wordN j → rightB (cand j (bl s)) = true → lineL (cand j (bl s)) ≠ bl s) := Lib.hid (by
    intro hh j g1 g2 e hr
    by_cases ej : j = k
    · subst ej
      rw [HX.out] at hr ⊢
      intro hl
      exact hh (by rw [HRB.out]; exact hr) (by rw [HLX.out, lineB, hl, lb_bl])
    · exact HN.out j g1 (by omega) e hr)
  cases rb
  · go_wp2_with fail
    go_roundw
    case rel => exact ⟨k + 1, by omega, by go_num, Lib.hid (HNX.out (fun h => by first | exact absurd h (by decide) | exact h.elim)), HB7⟩
    case measure => simp [intOf]; omega
  · go_wp2_with fail
    refine (HRL.out HRB.out.symm).mono ?_
    rintro e w8 ⟨rfl, g8⟩
    have HB8 := Lib.hid (below_later HB7.out g8.below)
    have HC8 := Lib.hid (HC7.out.gr g8)
    clear g8 c0 c1 c2 c3 c4 c5
    obtain ⟨c0, c1, c2, c3, c4, c5⟩ := HC8.out.fiveC
    by_cases hls : lx = s
    · have ht := eq_s hls
      have HLS := Lib.hid hls
      have k0 := HR2.out.later HB8.out
      obtain ⟨r0, r1, r2, r3, r4, _⟩ := k0.fiveC
      obtain ⟨q0, q1, q2, q3, q4, ql⟩ := k0.froz5
      have KF := ((((k0.set 0 (.int .i64 (k : Int))).set 1 (.string $x1)).set 2 (.string $x2)).set 3 (.string $x3)).set 4 (.string $x4)
      simp only [List.setIfInBounds_toArray, List.set_cons_zero, List.set_cons_succ] at KF
      have HKF := Lib.hid KF
      have HB9 := Lib.hid (below_later HB2.out HB8.out)
      have HSY := Lib.hid (show saysO (bl s) = some ⟨(k : Int), $x1, $x2, $x3, $x4⟩ from saysO_some ⟨HRB.out.symm, by
        have h1 : lb (lineL ⟨(k : Int), $x1, $x2, $x3, $x4⟩) = s := HLX.out.symm.trans HLS.out
        rw [← h1]⟩)
      clear KF k0 hls
      go_wp2_with fail
      obtain ⟨y0, y1, y2, y3, y4, _⟩ := HKF.out.fiveC
      exact bodyPost_ret (v := .tuple #[CV ⟨(k : Int), $x1, $x2, $x3, $x4⟩, .bool true]) (by simp [results, Try.results37, go_sem, y0, y1, y2, y3, y4]) rfl ⟨ends_of HSY.out, (((((HB9.out).setCell (Nat.le_refl _) _).setCell (Nat.le_refl _) _).setCell (Nat.le_refl _) _).setCell (Nat.le_refl _) _).setCell (Nat.le_refl _) _⟩
    · have ht := ne_s hls
      have HLS := Lib.hid hls
      clear hls
      go_wp2_with fail
      go_roundw
      case rel => exact ⟨k + 1, by omega, by go_num, Lib.hid (HNX.out (fun _ => HLS.out)), HB8⟩
      case measure => simp [intOf]; omega))
set_option maxRecDepth 100000 in
set_option maxHeartbeats 4000000 in
theorem rbOf_any (s : ByteArray) (hs : s.size ≤ 100000) (w : World) :
    Calls Try.prog 37 #[.string s] w fun e w' => e = .returned (.tuple #[CV ((saysO (bl s)).getD Chg.zero), .bool (saysO (bl s)).isSome]) ∧ Below w.heap.size w w' := by
  have HWD := Lib.hid (fun W => rbwords_any s hs W)
  go_enter Try.func37, Try.ntmps37
  go_wp2_with fail
  refine (HWD.out _).mono ?_
  rintro e w1 ⟨v, rfl, o1, b1⟩
  have gA := (Gr.alloc w (.cells zC 27)).below
  have HR1 := Lib.hid ((Blk.new w zC 27).later b1)
  have HB1 := Lib.hid (below_later gA b1)
  have hne := wordsA_ne (bl s)
  have hRn := wordsA_len (bl s)
  rw [bl_len] at hRn
  obtain ⟨o, c, ev⟩ := o1.shape
  have hs1 := o1.sl
  rw [List.length_map] at ev
  subst ev
  have HS1 := Lib.hid hs1
  have HWL := Lib.hid (fun i => wd_len (s := bl s) i)
  obtain ⟨R, hR⟩ : ∃ R, R = wordsA (bl s) := ⟨_, rfl⟩
  rw [← hR] at HS1 HWL hne hRn ⊢
  obtain ⟨n, hn⟩ : ∃ n, n = R.length := ⟨_, rfl⟩
  have hn0 : 0 < n := by rw [hn]; exact List.length_pos_iff.2 hne
  rw [← hn] at hRn
  have HR := Lib.hid hR
  have HNn := Lib.hid hn
  clear o1 b1 gA hs1 hne hR HWD
  rw [← hn] at HS1 ⊢
  clear hn
  go_wp2
  generalize hW2 : w1.alloc _ = W2
  have g2 : Gr w1 W2 := by rw [← hW2]; exact Gr.alloc _ _
  have HB2 := Lib.hid (below_later HB1.out g2.below)
  have HR2 := Lib.hid (HR1.out.gr g2)
  have HS2 := Lib.hid (HS1.out.gr g2)
  have HK2 := Lib.hid (show Blk W2 w1.heap.size words9 9 by rw [← hW2]; exact Blk.new _ _ _)
  have hz : w.heap.size + 1 ≤ w1.heap.size := HR1.out.lt
  clear hW2 g2 HR1 HB1 HS1
  go_loopw [13] (fun s13 wr => ∃ k : Nat, k ≤ 9 ∧ s13 = .int .i64 (k : Int) ∧ Hid (∀ j, 1 ≤ j → j < k → wd R 0 = wordN j → rightB (cand j (bl s)) = true → lineL (cand j (bl s)) ≠ bl s) ∧ Hid (Below W2.heap.size W2 wr)) (fun s13 _ => 9 - (intOf s13).toNat)
  case atStart => exact ⟨0, by omega, rfl, Lib.hid (fun j h1 h2 => by omega), Lib.hid (Below.refl _ _)⟩
  case round =>
    obtain ⟨k, hk, rfl, HN, HB⟩ := hrel
    obtain ⟨oB, fB, rfl, hR0, hbl⟩ : ∃ b f, o = some ⟨b, f, none⟩ ∧ wr.cell? ⟨b, f, none⟩ = some (.string (lb (wd R 0))) ∧ b < wr.heap.size := by
      have hkR : 0 < R.length := by rw [← HNn.out]; exact hn0
      rcases (HS2.out.later HB.out).2 with ⟨_, h2⟩ | ⟨b, off, cap, h1, h2, h3, h4, h5⟩
      · rw [List.map_eq_nil_iff] at h2
        rw [h2] at hkR
        simp at hkR
      · injection h1 with e1 e2 e3
        exact ⟨b, off, e1, by have := h5 0 (by simpa using hkR); rw [Nat.add_zero] at this; rw [this]; simp [wd, hkR, sv], h4⟩
    obtain ⟨Z, hZ⟩ : ∃ Z, Z = lb (wd R 0) := ⟨_, rfl⟩
    rw [← hZ] at hR0
    have HZ := Lib.hid hZ
    clear hZ
    by_cases hlt : k < 9
    · have e1 : decide ((k : Int) < 9) = true := by simp; omega
      have hw := words9_at (HK2.out.later HB.out) hlt
      have hwl : w1.heap.size < wr.heap.size := (HK2.out.later HB.out).lt
      obtain ⟨u, hu⟩ : ∃ u, u = lb (wordN k) := ⟨_, rfl⟩
      rw [← hu] at hw
      have hus : u.size ≤ 7 := by rw [hu, lb_size]; exact word_len k
      have HU := Lib.hid hu
      clear hu
      by_cases h0 : k = 0
      · subst h0
        go_wp2_with fail
        go_roundw
        case rel => exact ⟨1, by omega, by go_num, Lib.hid (fun j h1 h2 => by omega), HB⟩
        case measure => simp [intOf]
      · have h1 : 1 ≤ k := by omega
        have e0 : ((k : Int) == 0) = false := by simp; omega
        clear h0
        by_cases hu : u = Z
        · subst hu
          have HA := fun i W (hb : Below W2.heap.size W2 W) => rbat_any (some ⟨oB, fB, none⟩) c i R W (by rw [← HNn.out]; exact HS2.out.later hb)
          rw [← HNn.out] at HA
          obtain ⟨a1, ha1⟩ : ∃ x, x = lb (wd R 1) := ⟨_, rfl⟩
          obtain ⟨a2, ha2⟩ : ∃ x, x = lb (wd R 2) := ⟨_, rfl⟩
          obtain ⟨a3, ha3⟩ : ∃ x, x = lb (wd R 3) := ⟨_, rfl⟩
          have HA1 : Hid (∀ W, Below W2.heap.size W2 W → Calls Try.prog 48 #[.slice (some ⟨oB, fB, none⟩) n c, .int .i64 1] W fun e w' => e = .returned (.string a1) ∧ w' = W) := Lib.hid (by rw [ha1]; exact fun W hb => HA 1 W hb)
          have HA2 : Hid (∀ W, Below W2.heap.size W2 W → Calls Try.prog 48 #[.slice (some ⟨oB, fB, none⟩) n c, .int .i64 2] W fun e w' => e = .returned (.string a2) ∧ w' = W) := Lib.hid (by rw [ha2]; exact fun W hb => HA 2 W hb)
          have HA3 : Hid (∀ W, Below W2.heap.size W2 W → Calls Try.prog 48 #[.slice (some ⟨oB, fB, none⟩) n c, .int .i64 3] W fun e w' => e = .returned (.string a3) ∧ w' = W) := Lib.hid (by rw [ha3]; exact fun W hb => HA 3 W hb)
          have l1 : a1.size ≤ 100000 := by rw [ha1, lb_size]; have := HWL.out 1; rw [bl_len] at this; omega
          have l2 : a2.size ≤ 100000 := by rw [ha2, lb_size]; have := HWL.out 2; rw [bl_len] at this; omega
          have l3 : a3.size ≤ 100000 := by rw [ha3, lb_size]; have := HWL.out 3; rw [bl_len] at this; omega
          have H1 := Lib.hid ha1
          have H2 := Lib.hid ha2
          have H3 := Lib.hid ha3
          clear HA ha1 ha2 ha3
          go_wp2_with fail
          refine (HA1.out _ HB.out).mono ?_
          rintro e w3 ⟨rfl, ew⟩
          have HB := Lib.hid (show Below W2.heap.size W2 w3 by rw [ew]; exact HB.out)
          have hbl : oB < w3.heap.size := by rw [ew]; exact hbl
          have hwl : w1.heap.size < w3.heap.size := by rw [ew]; exact hwl
          clear ew hR0 hw
          have hcl : ((k : Int) ≤ 2) ∨ (3 ≤ (k : Int) ∧ (k : Int) ≠ 5 ∧ (k : Int) < 7) ∨ ((k : Int) = 5) ∨ (7 ≤ (k : Int)) := by omega
          rcases hcl with hc | hc | hc | hc
          · have d2 : decide (2 < (k : Int)) = false := by simp; omega
            have d5 : ((k : Int) == 5) = false := by simp; omega
            have d7 : decide (7 ≤ (k : Int)) = false := by simp; omega
            have HX : Hid (cand k (bl s) = ⟨(k : Int), a1, noB, noB, noB⟩) := Lib.hid (by
              rw [cand, valA, ← HR.out, ← H1.out, if_neg (by omega), if_neg (by omega), if_neg (by omega)])
            have z1 : a1.size ≤ 9223372036854775807 := by omega
            have z2 : noB.size ≤ 9223372036854775807 := by decide
            have z3 : noB.size ≤ 9223372036854775807 := by decide
            have z4 : noB.size ≤ 9223372036854775807 := by decide
            go_wp2_with fail
            have gN := Gr.alloc w3 (.cells #[.int .i64 (k : Int), .string a1, .string noB, .string noB, .string noB] 27)
            have HBN := Lib.hid (below_later HB.out gN.below)
            have HC := Lib.hid (Blk.new w3 #[.int .i64 (k : Int), .string a1, .string noB, .string noB, .string noB] 27)
            generalize hWN : w3.alloc _ = WN at HBN HC ⊢
            clear gN hWN
            tlOf a1 noB noB noB
          · have d2 : decide (2 < (k : Int)) = true := by simp; omega
            have d5 : ((k : Int) == 5) = false := by simp; omega
            have d7 : decide (7 ≤ (k : Int)) = false := by simp; omega
            have HX : Hid (cand k (bl s) = ⟨(k : Int), a1, a2, noB, noB⟩) := Lib.hid (by
              rw [cand, valA, ← HR.out, ← H1.out, ← H2.out, if_pos (by omega), if_neg (by omega), if_neg (by omega)])
            have z1 : a1.size ≤ 9223372036854775807 := by omega
            have z2 : a2.size ≤ 9223372036854775807 := by omega
            have z3 : noB.size ≤ 9223372036854775807 := by decide
            have z4 : noB.size ≤ 9223372036854775807 := by decide
            have gN := Gr.alloc w3 (.cells #[.int .i64 (k : Int), .string a1, .string noB, .string noB, .string noB] 27)
            have HBN := Lib.hid (below_later HB.out gN.below)
            have HC := Lib.hid (Blk.new w3 #[.int .i64 (k : Int), .string a1, .string noB, .string noB, .string noB] 27)
            go_wp2_with fail
            refine (HA2.out _ HBN.out).mono ?_
            rintro e _ ⟨rfl, rfl⟩
            go_wp2_with fail
            clear gN HBN HC
            have gN := Gr.alloc w3 (.cells #[.int .i64 (k : Int), .string a1, .string a2, .string noB, .string noB] 27)
            have HBN := Lib.hid (below_later HB.out gN.below)
            have HC := Lib.hid (Blk.new w3 #[.int .i64 (k : Int), .string a1, .string a2, .string noB, .string noB] 27)
            generalize hWN : w3.alloc _ = WN at HBN HC ⊢
            clear gN hWN
            tlOf a1 a2 noB noB
          · have d2 : decide (2 < (k : Int)) = true := by simp; omega
            have d5 : ((k : Int) == 5) = true := by simp; omega
            have d7 : decide (7 ≤ (k : Int)) = false := by simp; omega
            have z1 : a1.size ≤ 9223372036854775807 := by omega
            have z2 : a2.size ≤ 9223372036854775807 := by omega
            have z4 : noB.size ≤ 9223372036854775807 := by decide
            have hul : u.size = (wordN k).length := by rw [HU.out, lb_size]
            have ha1l : a1.size = (wd R 1).length := by rw [H1.out, lb_size]
            have ha2l : a2.size = (wd R 2).length := by rw [H2.out, lb_size]
            have gN := Gr.alloc w3 (.cells #[.int .i64 (k : Int), .string a1, .string noB, .string noB, .string noB] 27)
            have HBN := Lib.hid (below_later HB.out gN.below)
            by_cases hbg : u.size + a1.size + a2.size + 4 < s.size
            · have HX : Hid (cand k (bl s) = ⟨(k : Int), a1, a2, s.extract (u.size + a1.size + a2.size + 4) (s.size - 1), noB⟩) := Lib.hid (by
                obtain rfl : k = 5 := by omega
                have hb : (wordN 5).length + (wd R 1).length + (wd R 2).length + 4 < (bl s).length := by rw [bl_len]; omega
                rw [cand, valA, ← HR.out, ← H1.out, ← H2.out]
                simp only [show (3 : Nat) ≤ 5 from by decide, show ¬ (7 : Nat) ≤ 5 from by decide, if_true, if_false, true_and]
                rw [if_pos hb, ext_lb, List.drop_take, bl_len, hul, ha1l, ha2l])
              have z3 : (s.extract (u.size + a1.size + a2.size + 4) (s.size - 1)).size ≤ 9223372036854775807 := by rw [ByteArray.size_extract]; omega
              have i1 : (u.size : Int) + a1.size + a2.size + 4 < s.size := by omega
              have di : decide ((u.size : Int) + a1.size + a2.size + 4 < s.size) = true := by simp; omega
              clear hul ha1l ha2l hc
              go_wp2_with fail
              refine (HA2.out _ HBN.out).mono ?_
              rintro e _ ⟨rfl, rfl⟩
              go_wp2_with fail
              obtain ⟨v3, hv3⟩ : ∃ v, v = s.extract (u.size + a1.size + a2.size + 4) (s.size - 1) := ⟨_, rfl⟩
              rw [← hv3] at HX z3 ⊢
              clear gN HBN hv3
              have gN := Gr.alloc w3 (.cells #[.int .i64 (k : Int), .string a1, .string a2, .string v3, .string noB] 27)
              have HBN := Lib.hid (below_later HB.out gN.below)
              have HC := Lib.hid (Blk.new w3 #[.int .i64 (k : Int), .string a1, .string a2, .string v3, .string noB] 27)
              generalize hWN : w3.alloc _ = WN at HBN HC ⊢
              clear gN hWN
              tlOf a1 a2 v3 noB
            · have HX : Hid (cand k (bl s) = ⟨(k : Int), a1, a2, noB, noB⟩) := Lib.hid (by
                obtain rfl : k = 5 := by omega
                have hb : ¬ (wordN 5).length + (wd R 1).length + (wd R 2).length + 4 < (bl s).length := by rw [bl_len]; omega
                rw [cand, valA, ← HR.out, ← H1.out, ← H2.out]
                simp only [show (3 : Nat) ≤ 5 from by decide, show ¬ (7 : Nat) ≤ 5 from by decide, if_true, if_false, true_and]
                rw [if_neg hb])
              have z3 : noB.size ≤ 9223372036854775807 := by decide
              have i1 : ¬ (u.size : Int) + a1.size + a2.size + 4 < s.size := by omega
              have di : decide ((u.size : Int) + a1.size + a2.size + 4 < s.size) = false := by simp; omega
              clear hul ha1l ha2l hc
              go_wp2_with fail
              refine (HA2.out _ HBN.out).mono ?_
              rintro e _ ⟨rfl, rfl⟩
              go_wp2_with fail
              clear gN HBN
              have gN := Gr.alloc w3 (.cells #[.int .i64 (k : Int), .string a1, .string a2, .string noB, .string noB] 27)
              have HBN := Lib.hid (below_later HB.out gN.below)
              have HC := Lib.hid (Blk.new w3 #[.int .i64 (k : Int), .string a1, .string a2, .string noB, .string noB] 27)
              generalize hWN : w3.alloc _ = WN at HBN HC ⊢
              clear gN hWN
              tlOf a1 a2 noB noB
          · have d2 : decide (2 < (k : Int)) = true := by simp; omega
            have d5 : ((k : Int) == 5) = false := by simp; omega
            have d7 : decide (7 ≤ (k : Int)) = true := by simp; omega
            have HX : Hid (cand k (bl s) = ⟨(k : Int), a1, a2, noB, a3⟩) := Lib.hid (by
              rw [cand, valA, ← HR.out, ← H1.out, ← H2.out, ← H3.out, if_pos (by omega), if_neg (by omega), if_pos (by omega)])
            have z1 : a1.size ≤ 9223372036854775807 := by omega
            have z2 : a2.size ≤ 9223372036854775807 := by omega
            have z3 : noB.size ≤ 9223372036854775807 := by decide
            have z4 : a3.size ≤ 9223372036854775807 := by omega
            have gN := Gr.alloc w3 (.cells #[.int .i64 (k : Int), .string a1, .string noB, .string noB, .string noB] 27)
            have HBN := Lib.hid (below_later HB.out gN.below)
            have HBM := Lib.hid (below_later HB.out (Gr.alloc w3 (.cells #[.int .i64 (k : Int), .string a1, .string a2, .string noB, .string noB] 27)).below)
            go_wp2_with fail
            refine (HA2.out _ HBN.out).mono ?_
            rintro e _ ⟨rfl, rfl⟩
            go_wp2_with fail
            refine (HA3.out _ HBM.out).mono ?_
            rintro e _ ⟨rfl, rfl⟩
            go_wp2_with fail
            clear gN HBN HBM
            have gN := Gr.alloc w3 (.cells #[.int .i64 (k : Int), .string a1, .string a2, .string noB, .string a3] 27)
            have HBN := Lib.hid (below_later HB.out gN.below)
            have HC := Lib.hid (Blk.new w3 #[.int .i64 (k : Int), .string a1, .string a2, .string noB, .string a3] 27)
            generalize hWN : w3.alloc _ = WN at HBN HC ⊢
            clear gN hWN
            tlOf a1 a2 noB a3
        · have ht := ne_s hu
          have HUZ := Lib.hid hu
          clear hu
          go_wp2_with fail
          go_roundw
          case rel =>
            refine ⟨k + 1, by omega, by go_num, Lib.hid (fun j g1 g2 e => ?_), HB⟩
            by_cases ej : j = k
            · subst ej
              exact absurd (by rw [HU.out, HZ.out, e]) HUZ.out
            · exact HN.out j g1 (by omega) e
          case measure => simp [intOf]; omega
    · obtain rfl : k = 9 := by omega
      have hno : saysO (bl s) = none := of_no fun k h1 h8 h0 hr => HN.out k h1 (by omega) (by rw [HR.out]; exact h0) hr
      have k0 := HR2.out.later HB.out
      obtain ⟨z0, z1, z2, z3, z4, zl⟩ := k0.froz5
      obtain ⟨y0, y1, y2, y3, y4, _⟩ := k0.fiveC
      have HK := Lib.hid k0
      have HNO := Lib.hid hno
      have KF := ((((k0.set 0 (.int .i64 0)).set 1 (.string ⟨#[]⟩)).set 2 (.string ⟨#[]⟩)).set 3 (.string ⟨#[]⟩)).set 4 (.string ⟨#[]⟩)
      simp only [List.setIfInBounds_toArray, List.set_cons_zero, List.set_cons_succ] at KF
      have HKF := Lib.hid KF
      have HB9 := Lib.hid (below_later HB2.out HB.out)
      clear k0 hno KF
      go_wp2_with fail
      clear y0 y1 y2 y3 y4
      obtain ⟨y0, y1, y2, y3, y4, _⟩ := HKF.out.fiveC
      exact bodyPost_ret (v := .tuple #[CV Chg.zero, .bool false]) (by simp [results, Try.results37, go_sem, y0, y1, y2, y3, y4, Chg.zero]) rfl ⟨ends_no HNO.out, (((((HB9.out).setCell (Nat.le_refl _) _).setCell (Nat.le_refl _) _).setCell (Nat.le_refl _) _).setCell (Nat.le_refl _) _).setCell (Nat.le_refl _) _⟩
end Go.Proofs.Ytoajaacdhkknfaa

