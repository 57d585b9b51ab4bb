/- Line and Batch. -/
import Derived.Test.YtoajaacdhkknfaaX11
namespace Go.Proofs.Kit
open Go.RowKit
/-- What Line tells. -/
def lineO (c : Chg) : ByteArray := if rightB c then lineB c else noB
/-- How many changes may be, up to the first that may not. -/
def goodN : List Chg → Nat
  | [] => 0
  | c :: t => if rightB c = true then goodN t + 1 else 0
def batchN (l : List Chg) : Int := if 64 < l.length then 0 else if goodN l < l.length then goodN l + 1 else l.length
def batchE (l : List Chg) : Int := if 64 < l.length then 3 else if goodN l < l.length then 190 else 0
theorem goodN_le : ∀ l : List Chg, goodN l ≤ l.length
  | [] => Nat.le_refl _
  | c :: t => by
    have := goodN_le t
    rw [goodN]
    split <;> simp <;> omega
theorem goodN_at : ∀ {l : List Chg} {k : Nat} (h : k < l.length), (∀ i (hi : i < l.length), i < k → rightB l[i] = true) → rightB l[k] = false → goodN l = k
  | c :: t, 0, _, _, hk => by
    simp only [List.getElem_cons_zero] at hk
    rw [goodN, if_neg (by simp [hk])]
  | c :: t, k + 1, h, hall, hk => by
    have hc : rightB c = true := hall 0 (by simp) (by omega)
    have := goodN_at (l := t) (k := k) (by simpa using h) (fun i hi hik => by have := hall (i + 1) (by simpa using hi) (by omega); simpa using this) (by simpa using hk)
    rw [goodN, if_pos hc, this]
theorem goodN_all : ∀ {l : List Chg}, (∀ i (hi : i < l.length), rightB l[i] = true) → goodN l = l.length
  | [], _ => rfl
  | c :: t, hall => by
    have hc : rightB c = true := hall 0 (by simp)
    rw [goodN, if_pos hc, goodN_all (l := t) (fun i hi => by have := hall (i + 1) (by simpa using hi); simpa using this), List.length_cons]
theorem goodN_right : ∀ {l : List Chg}, goodN l = l.length → ∀ c ∈ l, rightB c = true
  | [], _, _, h => by cases h
  | c :: t, h, d, hd => by
    rw [goodN] at h
    split at h
    · rename_i hc
      rcases List.mem_cons.1 hd with rfl | hd
      · exact hc
      · exact goodN_right (by simpa using h) d hd
    · simp at h
theorem batchE_zero {l : List Chg} (h : batchE l = 0) : l.length ≤ 64 ∧ (∀ c ∈ l, rightB c = true) := by
  unfold batchE at h
  split at h
  · cases h
  · split at h
    · cases h
    · have := goodN_le l
      exact ⟨by omega, goodN_right (by omega)⟩
end Go.Proofs.Kit
namespace Go.Proofs.Ytoajaacdhkknfaa
open Go.RowKit Go.Proofs.Kit Go.Shelf
theorem lineOf_right (c : Chg) (h : rightB c = true) (w : World) : Calls Try.prog 28 #[CV c] w fun e w' => e = .returned (.string (lineB c)) ∧ Below w.heap.size w w' := by
  obtain ⟨k, hk, h1, h8⟩ := kind_cases h
  obtain ⟨ck, key, name, val, dst⟩ := c
  simp only at hk
  subst hk
  exact lineOf_any k key name val dst h1 h8 h w
set_option maxRecDepth 100000 in
set_option maxHeartbeats 4000000 in
theorem bline_any (c : Chg) (hf : Fits c) (w : World) : Calls Try.prog 12 #[CV c] w fun e w' => e = .returned (.tuple #[.string (lineO c), .int .i64 (codeC (rightB c))]) ∧ Below w.heap.size w w' := by
  have HC := Lib.hid (fun W => check_any c hf W)
  have HL := Lib.hid (fun (h : rightB c = true) W => lineOf_right c h W)
  have HO := Lib.hid (show lineO c = if rightB c then lineB c else noB from rfl)
  obtain ⟨s, hs⟩ : ∃ s, s = lineO c := ⟨_, rfl⟩
  rw [← hs] at HO ⊢
  obtain ⟨b, hb⟩ : ∃ b, b = rightB c := ⟨_, rfl⟩
  rw [← hb] at HC HO HL ⊢
  obtain ⟨q, hq⟩ : ∃ q, q = lineB c := ⟨_, rfl⟩
  rw [← hq] at HO HL
  clear hs hb hq hf
  obtain ⟨x0, x1, x2, x3, x4⟩ := c
  go_enter Try.func12, Try.ntmps12
  go_wp2_with fail
  refine (HC.out _).mono ?_
  rintro e w2 ⟨rfl, b2⟩
  have k1 := (Blk.new w #[.int .i64 x0, .string x1, .string x2, .string x3, .string x4] 27).later b2
  obtain ⟨c0, c1, c2, c3, c4⟩ := k1.five
  have HB := Lib.hid (below_later (Gr.alloc w (.cells #[.int .i64 x0, .string x1, .string x2, .string x3, .string x4] 27)).below b2)
  have l1 := k1.lt
  clear k1 b2
  cases b
  · have e1 : codeC false = 190 := rfl
    rw [e1]
    have hs : s = noB := by rw [HO.out]; rfl
    subst hs
    clear e1
    go_wp2
    go_ret2
    exact ⟨rfl, HB.out⟩
  · have e1 : codeC true = 0 := rfl
    rw [e1]
    have hs : s = q := by rw [HO.out]; rfl
    subst hs
    clear e1
    go_wp2_with fail
    refine (HL.out trivial _).mono ?_
    rintro e w3 ⟨rfl, b3⟩
    go_wp2
    go_ret2
    exact ⟨rfl, below_later HB.out b3⟩
set_option maxRecDepth 100000 in
set_option maxHeartbeats 4000000 in
theorem batch_any (v : Value) (l : List Chg) (w : World) (hs : SegE chgE w v l) (hf : ∀ x ∈ l, Fits x) :
    Calls Try.prog 18 #[v] w fun e w' => e = .returned (.tuple #[.int .i64 (batchN l), .int .i64 (batchE l)]) ∧ Below w.heap.size w w' := by
  obtain ⟨o, c, rfl, hc, hm, _⟩ := hs.shape
  have HS := Lib.hid hs
  have HF := Lib.hid hf
  have hlen : l.length ≤ 9223372036854775807 := hs.len
  obtain ⟨n, hn⟩ : ∃ n, n = l.length := ⟨_, rfl⟩
  rw [← hn] at HS hc hlen ⊢
  by_cases h64 : 64 < n
  · have g1 : decide ((64 : Int) < (n : Int)) = true := by simp; omega
    have HN := Lib.hid (show batchN l = 0 by rw [batchN, if_pos (by omega)])
    have HE := Lib.hid (show batchE l = 3 by rw [batchE, if_pos (by omega)])
    obtain ⟨bn, hbn⟩ : ∃ b, b = batchN l := ⟨_, rfl⟩
    obtain ⟨be, hbe⟩ : ∃ b, b = batchE l := ⟨_, rfl⟩
    rw [← hbn] at HN ⊢
    rw [← hbe] at HE ⊢
    obtain rfl := HN.out
    obtain rfl := HE.out
    clear hn hs hf h64 hbn hbe HN HE hc hlen
    go_enter Try.func18, Try.ntmps18
    go_wp2
    go_ret2
    exact ⟨rfl, Below.refl _ _⟩
  · have g1 : decide ((64 : Int) < (n : Int)) = false := by simp; omega
    have HL := Lib.hid hn
    have HN := Lib.hid (show batchN l = if goodN l < l.length then (goodN l : Int) + 1 else l.length by rw [batchN, if_neg (by omega)])
    have HE := Lib.hid (show batchE l = if goodN l < l.length then 190 else 0 by rw [batchE, if_neg (by omega)])
    obtain ⟨bn, hbn⟩ : ∃ b, b = batchN l := ⟨_, rfl⟩
    obtain ⟨be, hbe⟩ : ∃ b, b = batchE l := ⟨_, rfl⟩
    rw [← hbn] at HN ⊢
    rw [← hbe] at HE ⊢
    have hn64 : n ≤ 64 := by omega
    clear hn hs hf h64 hbn hbe hc hlen
    go_enter Try.func18, Try.ntmps18
    go_wp2
    go_loopw [12] (fun s12 wr => ∃ k : Nat, k ≤ n ∧ s12 = .int .i64 (k : Int) ∧ Hid (∀ i (hi : i < l.length), i < k → rightB l[i] = true) ∧ Hid (Below w.heap.size w wr)) (fun s12 _ => n - (intOf s12).toNat)
    case atStart => exact ⟨0, Nat.zero_le _, rfl, Lib.hid (fun i _ h => by omega), Lib.hid (Below.refl _ _)⟩
    case round =>
      obtain ⟨k, hk, rfl, HA, HB⟩ := hrel
      clear g1
      by_cases hlt : k < n
      · have hkl : k < l.length := by have := HL.out; omega
        obtain ⟨b, f, rfl, _, hcn, hcm, hbl, hcells⟩ := (HS.out.later HB.out).has hkl
        obtain ⟨d0, d1, d2, d3, d4⟩ := ch_cells hcells k hkl
        obtain ⟨x, hx⟩ : ∃ x, x = l[k] := ⟨_, rfl⟩
        have hfx : Fits x := by rw [hx]; exact HF.out _ (List.getElem_mem hkl)
        rw [← hx] at d0 d1 d2 d3 d4
        have HX := Lib.hid hx
        have HC := Lib.hid (fun W => check_any x hfx W)
        obtain ⟨rb, hrb⟩ : ∃ b, b = rightB x := ⟨_, rfl⟩
        rw [← hrb] at HC
        have HRB := Lib.hid hrb
        clear hx hcells hfx hrb
        obtain ⟨x0, x1, x2, x3, x4⟩ := x
        simp only at d0 d1 d2 d3 d4
        go_wp2_with fail
        refine (HC.out _).mono ?_
        rintro e w2 ⟨rfl, b2⟩
        have gA := (Gr.alloc wr (.cells #[.int .i64 x0, .string x1, .string x2, .string x3, .string x4] 27)).below
        have HB2 := Lib.hid (below_later (below_later HB.out gA) b2)
        clear gA b2 d0 d1 d2 d3 d4
        cases rb
        · have e1 : codeC false = 190 := rfl
          rw [e1]
          have hg := goodN_at hkl HA.out (by rw [← HX.out]; exact HRB.out.symm)
          have hbn : bn = (k : Int) + 1 := by rw [HN.out, if_pos (by omega), hg]
          have hbe : be = 190 := by rw [HE.out, if_pos (by omega)]
          subst hbn hbe
          clear e1 hg
          go_wp2
          go_ret2
          exact ⟨rfl, HB2.out⟩
        · have e1 : codeC true = 0 := rfl
          rw [e1]
          have HR := Lib.hid (show ∀ i (hi : i < l.length), i < k + 1 → rightB l[i] = true from fun i hi hik => by
            by_cases e : i = k
            · subst e; rw [← HX.out]; exact HRB.out.symm
            · exact HA.out i hi (by omega))
          clear e1
          go_wp2
          go_roundw
          case rel => exact ⟨k + 1, by omega, by go_num, HR, HB2⟩
          case measure => simp [intOf]; omega
      · have hg := goodN_all (l := l) (fun i hi => HA.out i hi (by have := HL.out; omega))
        have hbn : bn = (n : Int) := by rw [HN.out, if_neg (by omega), HL.out]
        have hbe : be = 0 := by rw [HE.out, if_neg (by omega)]
        subst hbn hbe
        clear hg
        go_wp2
        go_ret2
        exact ⟨rfl, HB.out⟩
end Go.Proofs.Ytoajaacdhkknfaa

