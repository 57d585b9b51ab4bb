/- Line and Batch. -/
import Derived.Test.YtoajaacdhkknfaaDoorX11
namespace Go.Proofs.Kit
open Go.RowKit
/-- What Line tells. -/
def lineO (c : Chg) : ByteArray := if rightB c then lineB c else noB
/-- How many changes may be, up to the first that may not. -/
def goodN : List Chg → Nat
  | [] => 0
  | c :: t => if rightB c = true then goodN t + 1 else 0
def batchN (l : List Chg) : Int := if 64 < l.length then 0 else if goodN l < l.length then goodN l + 1 else l.length
def batchE (l : List Chg) : Int := if 64 < l.length then 3 else if goodN l < l.length then 190 else 0
theorem goodN_le : ∀ l : List Chg, goodN l ≤ l.length
  | [] => Nat.le_refl _
  | c :: t => by
    have := goodN_le t
    rw [goodN]
    split <;> simp <;> omega
theorem goodN_at : ∀ {l : List Chg} {k : Nat} (h : k < l.length), (∀ i (hi : i < l.length), i < k → rightB l[i] = true) → rightB l[k] = false → goodN l = k
  | c :: t, 0, _, _, hk => by
    simp only [List.getElem_cons_zero] at hk
    rw [goodN, if_neg (by simp [hk])]
  | c :: t, k + 1, h, hall, hk => by
    have hc : rightB c = true := hall 0 (by simp) (by omega)
    have := goodN_at (l := t) (k := k) (by simpa using h) (fun i hi hik => by have := hall (i + 1) (by simpa using hi) (by omega); simpa using this) (by simpa using hk)
    rw [goodN, if_pos hc, this]
theorem goodN_all : ∀ {l : List Chg}, (∀ i (hi : i < l.length), rightB l[i] = true) → goodN l = l.length
  | [], _ => rfl
  | c :: t, hall => by
    have hc : rightB c = true := hall 0 (by simp)
    rw [goodN, if_pos hc, goodN_all (l := t) (fun i hi => by have := hall (i + 1) (by simpa using hi); simpa using this), List.length_cons]
theorem goodN_right : ∀ {l : List Chg}, goodN l = l.length → ∀ c ∈ l, rightB c = true
  | [], _, _, h => by cases h
  | c :: t, h, d, hd => by
    rw [goodN] at h
    split at h
    · rename_i hc
      rcases List.mem_cons.1 hd with rfl | hd
      · exact hc
      · exact goodN_right (by simpa using h) d hd
    · simp at h
theorem batchE_zero {l : List Chg} (h : batchE l = 0) : l.length ≤ 64 ∧ (∀ c ∈ l, rightB c = true) := by
  unfold batchE at h
  split at h
  · cases h
  · split at h
    · cases h
    · have := goodN_le l
      exact ⟨by omega, goodN_right (by omega)⟩
end Go.Proofs.Kit
namespace Go.Proofs.YtoajaacdhkknfaaDoor
open Go.RowKit Go.Proofs.Kit Go.Shelf
theorem lineOf_right (c : Chg) (h : rightB c = true) (w : World) : Calls Tryd.prog 16 #[CV c] w fun e w' => e = .returned (.string (lineB c)) ∧ Below w.heap.size w w' := by
  obtain ⟨k, hk, h1, h8⟩ := kind_cases h
  obtain ⟨ck, key, name, val, dst⟩ := c
  simp only at hk
  subst hk
  exact lineOf_any k key name val dst h1 h8 h w
set_option maxRecDepth 100000 in
set_option maxHeartbeats 4000000 in
theorem bline_any (c : Chg) (hf : Fits c) (w : World) : Calls Tryd.prog 8 #[CV c] w fun e w' => e = .returned (.tuple #[.string (lineO c), .int .i64 (codeC (rightB c))]) ∧ Below w.heap.size w w' := by
  have HC := Lib.hid (fun W => check_any c hf W)
  have HL := Lib.hid (fun (h : rightB c = true) W => lineOf_right c h W)
  have HO := Lib.hid (show lineO c = if rightB c then lineB c else noB from rfl)
  obtain ⟨s, hs⟩ : ∃ s, s = lineO c := ⟨_, rfl⟩
  rw [← hs] at HO ⊢
  obtain ⟨b, hb⟩ : ∃ b, b = rightB c := ⟨_, rfl⟩
  rw [← hb] at HC HO HL ⊢
  obtain ⟨q, hq⟩ : ∃ q, q = lineB c := ⟨_, rfl⟩
  rw [← hq] at HO HL
  clear hs hb hq hf
  obtain ⟨x0, x1, x2, x3, x4⟩ := c
  go_enter Tryd.func8, Tryd.ntmps8
  go_wp2_with fail
  refine (HC.out _).mono ?_
  rintro e w2 ⟨rfl, b2⟩
  have k1 := (Blk.new w #[.int .i64 x0, .string x1, .string x2, .string x3, .string x4] 31).later b2
  obtain ⟨c0, c1, c2, c3, c4⟩ := k1.five
  have HB := Lib.hid (below_later (Gr.alloc w (.cells #[.int .i64 x0, .string x1, .string x2, .string x3, .string x4] 31)).below b2)
  have l1 := k1.lt
  clear k1 b2
  cases b
  · have e1 : codeC false = 190 := rfl
    rw [e1]
    have hs : s = noB := by rw [HO.out]; rfl
    subst hs
    clear e1
    go_wp2
    go_ret2
    exact ⟨rfl, HB.out⟩
  · have e1 : codeC true = 0 := rfl
    rw [e1]
    have hs : s = q := by rw [HO.out]; rfl
    subst hs
    clear e1
    go_wp2_with fail
    refine (HL.out trivial _).mono ?_
    rintro e w3 ⟨rfl, b3⟩
    go_wp2
    go_ret2
    exact ⟨rfl, below_later HB.out b3⟩
end Go.Proofs.YtoajaacdhkknfaaDoor

