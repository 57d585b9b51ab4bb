/- What begins a line, what its words tell, and where that goes: spelt, read, puts and the four that put. -/
import Derived.Test.YtoajaacdhkknfaaDoorX15
import Derived.Test.YtoajaacdhkknfaaDoorShB
import Derived.Test.YtoajaacdhkknfaaDoorX7
namespace Go.Proofs.Kit
open Go.RowKit
def hasV' (B k : Nat) : Value := if k = 0 then .slice none 0 0 else hasV B k
theorem KA_at' (B k : Nat) (h8 : k ≤ 8) : (KA B).extract (k * 2) (k * 2 + 2) = #[.string (lb (wordN k)), hasV' B k] := by
  by_cases h : k = 0
  · subst h; rfl
  · rw [KA_at B k (by omega) h8, hasV', if_neg h]
theorem wordN_ne {k : Nat} (h1 : 1 ≤ k) (h8 : k ≤ 8) : wordN k ≠ [] := by rcases eight h1 h8 with rfl | rfl | rfl | rfl | rfl | rfl | rfl | rfl <;> decide
/-- What spelt tells of a word. -/
def SpeltR (t : TypeId) (word : List UInt8) (n : Int) (u : ByteArray) (v : Value) (w' : World) : Prop :=
  (∃ k B : Nat, 1 ≤ k ∧ k ≤ 8 ∧ word = wordN k ∧ n = (k : Int) ∧ u = lb (wordN k) ∧ v = hasV B k ∧ KindsB t B w') ∨ ((∀ k, 1 ≤ k → k ≤ 8 → word ≠ wordN k) ∧ n = 0 ∧ u = noB ∧ v = .slice none 0 0)
/-- The four that put. -/
def putV (fs : Nat → Nat) (d : Addr) : Array Value := #[.func (.func (fs 0)) #[.pointer (some d)] #[], .func (.func (fs 1)) #[.pointer (some d)] #[], .func (.func (fs 2)) #[.pointer (some d)] #[], .func (.func (fs 3)) #[.pointer (some d)] #[]]
abbrev ccA (c : Chg) : Array Value := #[.int .i64 c.kind, .string c.key, .string c.name, .string c.val, .string c.to]
end Go.Proofs.Kit
namespace Go.Proofs.YtoajaacdhkknfaaDoor
open Go.RowKit Go.Proofs.Kit Go.Shelf
set_option maxRecDepth 100000 in
set_option maxHeartbeats 1000000 in
theorem clone_any (s : ByteArray) (h : s.size ≤ 281474976710656) (w : World) : Calls Tryd.prog 49 #[.string s] w fun e w' => e = .returned (.string s) ∧ Below w.heap.size w w' := by
  have H := Lib.hid (fun W => Tryd.stringslite_Clone s W h)
  clear h
  go_enter Tryd.func49, Tryd.ntmps49
  go_wp2_with fail
  refine (H.out _).mono ?_
  rintro e w2 ⟨rfl, b2⟩
  go_wp2
  go_ret
  exact ⟨rfl, b2⟩
set_option maxRecDepth 100000 in
set_option maxHeartbeats 1000000 in
theorem put0_any (g : Nat) (c : Chg) (s : ByteArray) (hs : s.size ≤ 281474976710656) (w : World) (hb : Blk w g (ccA c) 65) :
    Calls Tryd.prog 34 #[.pointer (some ⟨g, 0, none⟩), .string s] w fun e w' => e = .returned (.tuple #[]) ∧ Blk w' g (ccA (setP c 0 s)) 65 ∧ But g w w' := by
  have HC := Lib.hid (fun W => clone_any s hs W)
  have HB := Lib.hid hb
  have HE := Lib.hid (show (ccA c).setIfInBounds 1 (.string s) = ccA (setP c 0 s) from rfl)
  clear hs hb
  go_enter Tryd.func34, Tryd.ntmps34
  go_wp2_with fail
  refine (HC.out _).mono ?_
  rintro e w2 ⟨rfl, b2⟩
  have k2 := HB.out.later b2
  have hz := k2.frozen 1
  have hl := k2.lt
  obtain ⟨c0, c1, c2, c3, c4⟩ := k2.five
  have K2 := Lib.hid k2
  have HU := Lib.hid ((But.of_below (r := g) b2).set 1 (.string s))
  clear k2 b2
  go_wp2
  go_end0
  refine ⟨rfl, ?_, HU.out⟩
  rw [← HE.out]
  exact K2.out.set 1 (.string s)
set_option maxRecDepth 100000 in
set_option maxHeartbeats 1000000 in
theorem put1_any (g : Nat) (c : Chg) (s : ByteArray) (hs : s.size ≤ 281474976710656) (w : World) (hb : Blk w g (ccA c) 65) :
    Calls Tryd.prog 35 #[.pointer (some ⟨g, 0, none⟩), .string s] w fun e w' => e = .returned (.tuple #[]) ∧ Blk w' g (ccA (setP c 1 s)) 65 ∧ But g w w' := by
  have HC := Lib.hid (fun W => clone_any s hs W)
  have HB := Lib.hid hb
  have HE := Lib.hid (show (ccA c).setIfInBounds 2 (.string s) = ccA (setP c 1 s) from rfl)
  clear hs hb
  go_enter Tryd.func35, Tryd.ntmps35
  go_wp2_with fail
  refine (HC.out _).mono ?_
  rintro e w2 ⟨rfl, b2⟩
  have k2 := HB.out.later b2
  have hz := k2.frozen 2
  have hl := k2.lt
  obtain ⟨c0, c1, c2, c3, c4⟩ := k2.five
  have K2 := Lib.hid k2
  have HU := Lib.hid ((But.of_below (r := g) b2).set 2 (.string s))
  clear k2 b2
  go_wp2
  go_end0
  refine ⟨rfl, ?_, HU.out⟩
  rw [← HE.out]
  exact K2.out.set 2 (.string s)
set_option maxRecDepth 100000 in
set_option maxHeartbeats 1000000 in
theorem put2_any (g : Nat) (c : Chg) (s : ByteArray) (hs : s.size ≤ 281474976710656) (w : World) (hb : Blk w g (ccA c) 65) :
    Calls Tryd.prog 36 #[.pointer (some ⟨g, 0, none⟩), .string s] w fun e w' => e = .returned (.tuple #[]) ∧ Blk w' g (ccA (setP c 2 s)) 65 ∧ But g w w' := by
  have HC := Lib.hid (fun W => clone_any s hs W)
  have HB := Lib.hid hb
  have HE := Lib.hid (show (ccA c).setIfInBounds 3 (.string s) = ccA (setP c 2 s) from rfl)
  clear hs hb
  go_enter Tryd.func36, Tryd.ntmps36
  go_wp2_with fail
  refine (HC.out _).mono ?_
  rintro e w2 ⟨rfl, b2⟩
  have k2 := HB.out.later b2
  have hz := k2.frozen 3
  have hl := k2.lt
  obtain ⟨c0, c1, c2, c3, c4⟩ := k2.five
  have K2 := Lib.hid k2
  have HU := Lib.hid ((But.of_below (r := g) b2).set 3 (.string s))
  clear k2 b2
  go_wp2
  go_end0
  refine ⟨rfl, ?_, HU.out⟩
  rw [← HE.out]
  exact K2.out.set 3 (.string s)
set_option maxRecDepth 100000 in
set_option maxHeartbeats 1000000 in
theorem put3_any (g : Nat) (c : Chg) (s : ByteArray) (hs : s.size ≤ 281474976710656) (w : World) (hb : Blk w g (ccA c) 65) :
    Calls Tryd.prog 37 #[.pointer (some ⟨g, 0, none⟩), .string s] w fun e w' => e = .returned (.tuple #[]) ∧ Blk w' g (ccA (setP c 3 s)) 65 ∧ But g w w' := by
  have HC := Lib.hid (fun W => clone_any s hs W)
  have HB := Lib.hid hb
  have HE := Lib.hid (show (ccA c).setIfInBounds 4 (.string s) = ccA (setP c 3 s) from rfl)
  clear hs hb
  go_enter Tryd.func37, Tryd.ntmps37
  go_wp2_with fail
  refine (HC.out _).mono ?_
  rintro e w2 ⟨rfl, b2⟩
  have k2 := HB.out.later b2
  have hz := k2.frozen 4
  have hl := k2.lt
  obtain ⟨c0, c1, c2, c3, c4⟩ := k2.five
  have K2 := Lib.hid k2
  have HU := Lib.hid ((But.of_below (r := g) b2).set 4 (.string s))
  clear k2 b2
  go_wp2
  go_end0
  refine ⟨rfl, ?_, HU.out⟩
  rw [← HE.out]
  exact K2.out.set 4 (.string s)
set_option maxRecDepth 100000 in
set_option maxHeartbeats 1000000 in
theorem read_plain (p : Nat) (h : p ≠ 2) (s : ByteArray) (w : World) : Calls Tryd.prog 23 #[.int .i64 (p : Int), .string s] w fun e w' => e = .returned (.tuple #[.string s, .bool true]) ∧ w' = w := by
  have g : ((p : Int) != 2) = true := by simp; omega
  clear h
  go_enter Tryd.func23, Tryd.ntmps23
  go_wp2
  go_ret2
  exact ⟨rfl, rfl⟩
set_option maxRecDepth 100000 in
set_option maxHeartbeats 2000000 in
theorem read_quoted (s : ByteArray) (hs : s.size ≤ 9223372036854775807) (w : World) : Calls Tryd.prog 23 #[.int .i64 2, .string s] w fun e w' => e = .returned (.tuple #[.string (lb (trimQ (bl s))), .bool (quotB (bl s))]) ∧ w' = w := by
  have HQ := Lib.hid (show quotB (bl s) = (Lib.hasPrefix (bl s) [34] && Lib.hasSuffix (Lib.trimPrefix (bl s) [34]) [34]) from rfl)
  have HT := Lib.hid (show trimQ (bl s) = Lib.trimSuffix (Lib.trimPrefix (bl s) [34]) [34] from rfl)
  have hl : (Lib.trimPrefix (bl s) [34]).length ≤ 9223372036854775807 := by
    rw [← bl_len] at hs
    unfold Lib.trimPrefix
    split
    · rw [List.length_drop]; omega
    · exact hs
  have H1 := Lib.hid (fun W => Tryd.strings_CutPrefix s ⟨#[34]⟩ W)
  obtain ⟨t, ht⟩ : ∃ t, t = lb (Lib.trimPrefix (bl s) [34]) := ⟨_, rfl⟩
  have hbt : bl t = Lib.trimPrefix (bl s) [34] := by rw [ht]
  have hts : t.size ≤ 9223372036854775807 := by rw [ht, lb_size]; exact hl
  have H2 := Lib.hid (fun W => Tryd.strings_CutSuffix t ⟨#[34]⟩ W hts)
  obtain ⟨q, hq⟩ : ∃ q, q = quotB (bl s) := ⟨_, rfl⟩
  obtain ⟨r, hr⟩ : ∃ r, r = lb (trimQ (bl s)) := ⟨_, rfl⟩
  rw [← hbt] at HQ HT
  rw [← hq] at HQ ⊢
  rw [← hr]
  have HR := Lib.hid (show r = lb (Lib.trimSuffix (bl t) [34]) by rw [hr, HT.out])
  obtain ⟨b1, hb1⟩ : ∃ b, b = Lib.hasPrefix (bl s) [34] := ⟨_, rfl⟩
  obtain ⟨b2, hb2⟩ : ∃ b, b = Lib.hasSuffix (bl t) [34] := ⟨_, rfl⟩
  have H1' : Hid (∀ W, Calls Tryd.prog 38 #[.string s, .string ⟨#[34]⟩] W fun e w' => e = .returned (.tuple #[.string t, .bool b1]) ∧ w' = W) := Lib.hid (fun W => by rw [ht, hb1]; exact H1.out W)
  have H2' : Hid (∀ W, Calls Tryd.prog 39 #[.string t, .string ⟨#[34]⟩] W fun e w' => e = .returned (.tuple #[.string r, .bool b2]) ∧ w' = W) := Lib.hid (fun W => by rw [HR.out, hb2]; exact H2.out W)
  have HB := Lib.hid (show q = (b1 && b2) by rw [HQ.out, hb1, hb2])
  clear hl hts hbt ht hq hr hb1 hb2 H1 H2 HQ HT HR hs
  go_enter Tryd.func23, Tryd.ntmps23
  go_wp2_with fail
  refine (H1'.out _).mono ?_
  rintro e w' ⟨rfl, rfl⟩
  go_wp2_with fail
  refine (H2'.out _).mono ?_
  rintro e w' ⟨rfl, rfl⟩
  cases b1
  all_goals
    go_wp2
    go_ret2
    exact ⟨by rw [HB.out]; rfl, rfl⟩
theorem read_any (p : Nat) (s : ByteArray) (hs : s.size ≤ 9223372036854775807) (w : World) : Calls Tryd.prog 23 #[.int .i64 (p : Int), .string s] w fun e w' => e = .returned (.tuple #[.string (readP p (bl s)), .bool (okP p (bl s))]) ∧ w' = w := by
  by_cases h : p = 2
  · subst h
    exact read_quoted s hs w
  · rw [readP, okP, if_neg h, if_neg h, lb_bl]
    exact read_plain p h s w
set_option maxRecDepth 100000 in
set_option maxHeartbeats 2000000 in
theorem puts_any (d : Addr) (w : World) : Calls Tryd.prog 22 #[.pointer (some d)] w fun e w' => e = .returned (.agg #[.func (.func 34) #[.pointer (some d)] #[], .func (.func 35) #[.pointer (some d)] #[], .func (.func 36) #[.pointer (some d)] #[], .func (.func 37) #[.pointer (some d)] #[]]) ∧ Gr w w' := by
  have hmf : ∀ (fn : Fn) (first cap : Array Value) (w : World), (Instr.makeFunc fn first cap).run Tryd.prog w = .ok (.func fn first cap) w := fun _ _ _ _ => rfl
  go_enter Tryd.func22, Tryd.ntmps22
  go_wp2
  exact bodyPost_ret (v := .agg #[.func (.func 34) #[.pointer (some d)] #[], .func (.func 35) #[.pointer (some d)] #[], .func (.func 36) #[.pointer (some d)] #[], .func (.func 37) #[.pointer (some d)] #[]]) (by simp [results, Tryd.results22, go_sem]) rfl ⟨rfl, Gr.alloc _ _⟩
set_option maxRecDepth 100000 in
set_option maxHeartbeats 4000000 in
theorem spelt_any (word : ByteArray) (w : World) : Calls Tryd.prog 20 #[.string word] w fun e w' => ∃ n u v, e = .returned (.tuple #[.int .i64 n, .agg #[.string u, v]]) ∧ SpeltR 69 (bl word) n u v w' ∧ Below w.heap.size w w' := by
  obtain ⟨i, hi, hs⟩ := infoKind
  have hix : ∀ (B k : Nat), k ≤ 8 → ∀ w, (Instr.index 76 (.agg (KA B)) (.int .i64 (k : Int))).run Tryd.prog w = .ok (.agg #[.string (lb (wordN k)), hasV' B k]) w := fun B k h8 w => by
    rw [run_index_struct (sz := 2) _ k w Tryd.underlying76 Tryd.underlying59 hi hs (by omega), KA_at' _ k h8]
  have HIX := Lib.hid hix
  clear hix hi hs
  go_enter Tryd.func20, Tryd.ntmps20
  go_wp2_with fail
  refine (kinds_blk _).mono ?_
  rintro e w2 ⟨rfl, hK, g2⟩
  have HK := Lib.hid hK
  obtain ⟨W0, hW0⟩ : ∃ W0, W0 = w.alloc (.cells #[.string ⟨#[]⟩, .slice none 0 0] 59) := ⟨_, rfl⟩
  rw [← hW0] at HK g2 ⊢
  have b0 : Blk w2 w.heap.size #[.string ⟨#[]⟩, .slice none 0 0] 59 := by rw [hW0] at g2; exact (Blk.new _ _ _).gr g2
  have g0 : Gr w W0 := by rw [hW0]; exact Gr.alloc _ _
  have HB0 := Lib.hid b0
  have HB2 := Lib.hid (g0.trans g2).below
  obtain ⟨B, hB⟩ : ∃ B, B = W0.heap.size := ⟨_, rfl⟩
  rw [← hB] at HK ⊢
  have HIX := Lib.hid (HIX.out B)
  obtain ⟨A, hA⟩ : ∃ A, A = KA B := ⟨_, rfl⟩
  rw [← hA] at HIX ⊢
  clear hW0 hB hA hK g2 b0 g0
  go_wp2
  go_loopw [7] (fun s7 wr => ∃ k : Nat, k ≤ 9 ∧ s7 = .int .i64 (k : Int) ∧ Hid (∀ j, 1 ≤ j → j < k → bl word ≠ wordN j) ∧ Hid (Below w2.heap.size w2 wr)) (fun s7 _ => 9 - (intOf s7).toNat)
  case atStart => exact ⟨0, by omega, rfl, Lib.hid (fun j h1 h2 => by omega), Lib.hid (Below.refl _ _)⟩
  case round =>
    obtain ⟨k, hk, rfl, HN, HB⟩ := hrel
    by_cases hlt : k < 9
    · have hix := HIX.out k (by omega)
      obtain ⟨o, n, c, hv⟩ : ∃ o n c, hasV' B k = .slice o n c := by
        unfold hasV' hasV
        split
        · exact ⟨_, _, _, rfl⟩
        · exact ⟨_, _, _, rfl⟩
      rw [hv] at hix
      have HV := Lib.hid hv
      obtain ⟨u, hu⟩ : ∃ u, u = lb (wordN k) := ⟨_, rfl⟩
      rw [← hu] at hix
      have HU := Lib.hid hu
      have HKO := Lib.hid (fun W => biskind_any (k : Int) W)
      have k0 := HB0.out.later HB.out
      obtain ⟨z0, z1⟩ := And.intro (k0.frozen 0) (k0.frozen 1)
      obtain ⟨y0, y1, yl⟩ := k0.two
      by_cases h1 : 1 ≤ k
      · rw [show kindB (k : Int) = true by simp [kindB]; omega] at HKO
        by_cases hw : u = word
        · have ht := eq_s hw
          have HW := Lib.hid hw
          have K0 := Lib.hid k0
          clear hv hu hw k0
          go_wp2_with fail
          refine (HKO.out _).mono ?_
          rintro e w' ⟨rfl, rfl⟩
          go_wp2
          have HBR := Lib.hid (below_later HB2.out HB.out)
          have HKR := Lib.hid (HK.out.later HB.out)
          go_region
          all_goals
            refine then_w ?_
            intro W4 hW4
            have KF := (K0.out.set 0 (.string u)).set 1 (.slice o n c)
            simp only [List.setIfInBounds_toArray, List.set_cons_zero, List.set_cons_succ] at KF
            have KF4 : Blk W4 w.heap.size #[.string u, .slice o n c] 59 := by rw [hW4]; exact KF.alloc _
            have HK4 := Lib.hid (show KindsB 69 B W4 by
              rw [hW4]
              exact (((HKR.out.other K0.out (by decide) 0 (.string u)).other (K0.out.set 0 (.string u)) (by decide) 1 (.slice o n c)).later (Gr.alloc _ _).below).later (Gr.drew _).below)
            have HB4 := Lib.hid (show Below w.heap.size w W4 by
              rw [hW4]
              exact (((HBR.out.setCell (p := ⟨w.heap.size, 0, none⟩) (Nat.le_refl _) _).setCell (p := ⟨w.heap.size, 1, none⟩) (Nat.le_refl _) _).alloc (by have := HBR.out.size; simp; omega) _).drew)
            obtain ⟨q0, q1, _⟩ := KF4.two
            clear hW4 KF
            go_wp2
            refine bodyPost_ret (v := .tuple #[.int .i64 (k : Int), .agg #[.string u, .slice o n c]]) (by simp [results, Tryd.results20, go_sem, q0, q1]) rfl ⟨_, _, _, rfl, .inl ⟨k, B, h1, by omega, by rw [← HW.out, HU.out], rfl, HU.out, ?_, HK4.out⟩, HB4.out⟩
            rw [← HV.out, hasV', if_neg (by omega)]
        · have ht := ne_s hw
          have HW := Lib.hid hw
          have gA := Lib.hid (Gr.alloc wr (.cells #[.string u, .slice o n c] 59)).below
          clear hv hu hw k0 z0 z1 y0 y1
          go_wp2_with fail
          refine (HKO.out _).mono ?_
          rintro e w' ⟨rfl, rfl⟩
          go_wp2
          go_roundw
          case rel =>
            refine ⟨k + 1, by omega, by go_num, Lib.hid (fun j h1 h2 => ?_), Lib.hid (below_later HB.out gA.out)⟩
            by_cases e : j = k
            · subst e
              intro hh
              exact HW.out (by rw [HU.out, ← hh, lb_bl])
            · exact HN.out j h1 (by omega)
          case measure => simp [intOf]; omega
      · obtain rfl : k = 0 := by omega
        rw [show kindB ((0 : Nat) : Int) = false from rfl] at HKO
        have hix0 : ∀ w, (Instr.index 76 (.agg A) (.int .i64 0)).run Tryd.prog w = .ok (.agg #[.string u, .slice o n c]) w := hix
        have HKO : Hid (∀ W, Calls Tryd.prog 21 #[.int .i64 0] W fun e w' => e = .returned (.bool false) ∧ w' = W) := HKO
        clear hix
        have gA := Lib.hid (Gr.alloc wr (.cells #[.string u, .slice o n c] 59)).below
        clear hv hu k0 z0 z1 y0 y1
        go_wp2_with fail
        refine (HKO.out _).mono ?_
        rintro e w' ⟨rfl, rfl⟩
        go_wp2
        go_roundw
        case rel => exact ⟨1, by omega, by go_num, Lib.hid (fun j h1 h2 => by omega), Lib.hid (below_later HB.out gA.out)⟩
        case measure => simp [intOf]
    · obtain rfl : k = 9 := by omega
      have k0 := HB0.out.later HB.out
      obtain ⟨z0, z1⟩ := And.intro (k0.frozen 0) (k0.frozen 1)
      obtain ⟨y0, y1, yl⟩ := k0.two
      have K0 := Lib.hid k0
      have HB4 := Lib.hid (below_later HB2.out HB.out)
      have KF := (K0.out.set 0 (.string ⟨#[]⟩)).set 1 (.slice none 0 0)
      simp only [List.setIfInBounds_toArray, List.set_cons_zero, List.set_cons_succ] at KF
      have HKF := Lib.hid KF
      clear k0 KF
      go_wp2
      obtain ⟨q0, q1, _⟩ := HKF.out.two
      exact bodyPost_ret (v := .tuple #[.int .i64 0, .agg #[.string ⟨#[]⟩, .slice none 0 0]]) (by simp [results, Tryd.results20, go_sem, q0, q1]) rfl ⟨_, _, _, rfl, .inr ⟨fun j h1 h8 => HN.out j h1 (by omega), rfl, rfl, rfl⟩, (HB4.out.setCell (Nat.le_refl _) _).setCell (Nat.le_refl _) _⟩
end Go.Proofs.YtoajaacdhkknfaaDoor

