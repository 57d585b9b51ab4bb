/- What each kind has: kinds, parts; whether a part may be; Check. -/
import Derived.Test.YtoajaacdhkknfaaDoorX3
import Derived.Test.YtoajaacdhkknfaaDoorK0b
import Derived.Test.YtoajaacdhkknfaaDoorKitB
import Derived.Deep.RegionHeld3
namespace Go.Proofs.Kit
open Go.RowKit
/-- The parts that a kind has. -/
def hasL (k : Nat) : List Int :=
  match k with
  | 1 => [0] | 2 => [0] | 3 => [0, 1] | 4 => [0, 1] | 5 => [0, 1, 2] | 6 => [0, 1] | 7 => [0, 1, 3] | 8 => [0, 1, 3] | _ => []
def hasV (B k : Nat) : Value := .slice (some ⟨B + k, 0, none⟩) (hasL k).length (hasL k).length
/-- All kinds, as one value. -/
def KA (B : Nat) : Array Value := #[.string ⟨#[]⟩, .slice none 0 0, .string (lb (wordN 1)), hasV B 1, .string (lb (wordN 2)), hasV B 2, .string (lb (wordN 3)), hasV B 3, .string (lb (wordN 4)), hasV B 4, .string (lb (wordN 5)), hasV B 5, .string (lb (wordN 6)), hasV B 6, .string (lb (wordN 7)), hasV B 7, .string (lb (wordN 8)), hasV B 8]
/-- What the kinds name lies there. -/
def KindsAt (B : Nat) (w : World) : Prop := ∀ k, 1 ≤ k → k ≤ 8 → Seg .i64 w (hasV B k) (hasL k)
theorem KindsAt.later {B : Nat} {w w' : World} (h : KindsAt B w) (hb : Below w.heap.size w w') : KindsAt B w' := fun k h1 h8 => (h k h1 h8).later hb
/-- .. block by block. -/
def KindsB (t : TypeId) (B : Nat) (w : World) : Prop := ∀ k, 1 ≤ k → k ≤ 8 → Blk w (B + k) ((hasL k).map (Value.int .i64)).toArray t
theorem KindsB.at {t : TypeId} {B : Nat} {w : World} (h : KindsB t B w) : KindsAt B w := fun k h1 h8 =>
  Seg.of_blk (h k h1 h8) (Nat.le_refl _) (by rcases eight h1 h8 with rfl | rfl | rfl | rfl | rfl | rfl | rfl | rfl <;> decide) (by simp [List.take_of_length_le])
theorem KindsB.later {t : TypeId} {B : Nat} {w w' : World} (h : KindsB t B w) (hb : Below w.heap.size w w') : KindsB t B w' := fun k h1 h8 => (h k h1 h8).later hb
theorem Blk.ne_t {w : World} {b b' : Nat} {vs vs' : Array Value} {t t' : TypeId} (h : Blk w b vs t) (h' : Blk w b' vs' t') (ht : t ≠ t') : b ≠ b' := by
  rintro rfl
  unfold Blk at h h'
  rw [h] at h'
  injection h' with h'
  injection h' with _ h2 _
  exact ht h2
theorem KindsB.other {t t' : TypeId} {B g : Nat} {vs : Array Value} {w : World} (h : KindsB t B w) (hg : Blk w g vs t') (ht : t ≠ t') (i : Nat) (u : Value) : KindsB t B (w.setCell ⟨g, i, none⟩ u) := fun k h1 h8 =>
  (h k h1 h8).other ((h k h1 h8).ne_t hg ht) u
theorem KA_at (B k : Nat) (h1 : 1 ≤ k) (h8 : k ≤ 8) : (KA B).extract (k * 2) (k * 2 + 2) = #[.string (lb (wordN k)), hasV B k] := by
  rcases eight h1 h8 with rfl | rfl | rfl | rfl | rfl | rfl | rfl | rfl <;> rfl
theorem has_mem {k : Nat} (h1 : 1 ≤ k) (h8 : k ≤ 8) (p : Nat) (hp : p < 4) : decide ((p : Int) ∈ hasL k) = hasB k p := by
  rcases eight h1 h8 with rfl | rfl | rfl | rfl | rfl | rfl | rfl | rfl <;> rcases (by omega : p = 0 ∨ p = 1 ∨ p = 2 ∨ p = 3) with rfl | rfl | rfl | rfl <;> decide
theorem push_at (w : World) (o : Obj) (k : Nat) : (w.alloc o).heap[k]? = if k = w.heap.size then some o else w.heap[k]? := Array.getElem?_push
/-- Nine blocks laid one behind the other. -/
structure Nine (w W : World) (o1 o2 o3 o4 o5 o6 o7 o8 : Obj) : Prop where
  a1 : W.heap[w.heap.size + 1]? = some o1
  a2 : W.heap[w.heap.size + 2]? = some o2
  a3 : W.heap[w.heap.size + 3]? = some o3
  a4 : W.heap[w.heap.size + 4]? = some o4
  a5 : W.heap[w.heap.size + 5]? = some o5
  a6 : W.heap[w.heap.size + 6]? = some o6
  a7 : W.heap[w.heap.size + 7]? = some o7
  a8 : W.heap[w.heap.size + 8]? = some o8
  gr : Gr w W
theorem nine (w : World) (o0 o1 o2 o3 o4 o5 o6 o7 o8 : Obj) : Nine w (((((((((w.alloc o0).alloc o1).alloc o2).alloc o3).alloc o4).alloc o5).alloc o6).alloc o7).alloc o8) o1 o2 o3 o4 o5 o6 o7 o8 := by
  constructor
  case gr => exact ((((((((Gr.alloc _ _).trans (Gr.alloc _ _)).trans (Gr.alloc _ _)).trans (Gr.alloc _ _)).trans (Gr.alloc _ _)).trans (Gr.alloc _ _)).trans (Gr.alloc _ _)).trans (Gr.alloc _ _)).trans (Gr.alloc _ _)
  all_goals
    simp only [push_at, World.size_alloc]
    repeat (first | rw [if_pos (by omega)] | rw [if_neg (by omega)])
    exact if_pos trivial
theorem Nine.kinds {w W : World} {t : TypeId} (h : Nine w W (.cells #[.int .i64 0] t) (.cells #[.int .i64 0] t) (.cells #[.int .i64 0, .int .i64 1] t) (.cells #[.int .i64 0, .int .i64 1] t) (.cells #[.int .i64 0, .int .i64 1, .int .i64 2] t) (.cells #[.int .i64 0, .int .i64 1] t) (.cells #[.int .i64 0, .int .i64 1, .int .i64 3] t) (.cells #[.int .i64 0, .int .i64 1, .int .i64 3] t)) : KindsB t w.heap.size W := by
  intro k h1 h8
  rcases eight h1 h8 with rfl | rfl | rfl | rfl | rfl | rfl | rfl | rfl
  · exact h.a1
  · exact h.a2
  · exact h.a3
  · exact h.a4
  · exact h.a5
  · exact h.a6
  · exact h.a7
  · exact h.a8
end Go.Proofs.Kit
namespace Go.Proofs.YtoajaacdhkknfaaDoor
open Go.RowKit Go.Proofs.Kit Go.Shelf
set_option maxRecDepth 100000 in
set_option maxHeartbeats 1000000 in
theorem partsOf_any (c : Chg) (w : World) : Calls Tryd.prog 31 #[CV c] w fun e w' => e = .returned (.agg #[.string c.key, .string c.name, .string c.val, .string c.to]) ∧ Gr w w' := by
  go_enter Tryd.func31, Tryd.ntmps31
  go_wp2
  exact bodyPost_ret (v := .agg #[.string c.key, .string c.name, .string c.val, .string c.to]) (by simp [results, Tryd.results31, go_sem]) rfl ⟨rfl, (Gr.alloc _ _).trans (Gr.alloc _ _)⟩
set_option maxRecDepth 100000 in
set_option maxHeartbeats 1000000 in
theorem indexP_any (v : Value) (l : List Int) (w : World) (hs : Seg .i64 w v l) (key : Int) :
    Calls Tryd.prog 52 #[v, .int .i64 key] w fun e w' => ∃ r : Int, e = .returned (.int .i64 r) ∧ decide (0 ≤ r) = decide (key ∈ l) ∧ w = w' := by
  obtain ⟨o, c, rfl, hc, hm, a⟩ := hs.shape
  have h63 := hs.1
  obtain ⟨n, hn⟩ : ∃ n, n = l.length := ⟨_, rfl⟩
  rw [← hn] at h63 ⊢
  have HN := Lib.hid hn
  have HA := Lib.hid a
  clear hn a hs hc
  go_enter Tryd.func52, Tryd.ntmps52
  go_wp2
  go_loop [8] (fun i => ∃ k : Nat, k ≤ n ∧ i = .int .i64 (k : Int) ∧ Hid (∀ j (h : j < l.length), j < k → l[j] ≠ key)) (fun i => n - (intOf i).toNat)
  case atStart => exact ⟨0, Nat.zero_le _, rfl, Lib.hid fun j _ h2 => by omega⟩
  case round =>
    obtain ⟨k, hk, rfl, hp⟩ := hrel
    by_cases hlt : k < n
    · have hk1 : k < l.length := by have := HN.out; omega
      obtain ⟨b, g, rfl, hbl, hcells⟩ := HA.out.resolve_left (fun e => by rw [e] at hk1; simp at hk1)
      have d2 := hcells k hk1
      obtain ⟨y, hy'⟩ : ∃ y, y = l[k] := ⟨_, rfl⟩
      rw [← hy'] at d2
      have HY := Lib.hid hy'
      clear hy' hcells
      by_cases he : key = y
      · have ht : (key == y) = true := by simpa using he
        have HE := Lib.hid he
        clear he
        go_wp2
        go_ret
        have : key ∈ l := by rw [HE.out, HY.out]; exact List.getElem_mem hk1
        exact ⟨(k : Int), rfl, by simp [this], rfl⟩
      · have ht : (key == y) = false := by simpa using he
        have HE := Lib.hid he
        clear he
        go_wp2
        go_round
        case rel =>
          refine ⟨k + 1, by omega, by go_num, Lib.hid fun j hj h2 => ?_⟩
          by_cases e : j = k
          · subst e; rw [← HY.out]; exact fun h => HE.out h.symm
          · exact hp.out j hj (by omega)
        case measure => simp [intOf]; omega
    · go_wp2
      go_ret
      have : ¬ key ∈ l := by
        intro h
        obtain ⟨j, hj, e⟩ := List.getElem_of_mem h
        exact hp.out j hj (by have := HN.out; omega) e
      exact ⟨-1, rfl, by simp [this], rfl⟩
set_option maxRecDepth 100000 in
set_option maxHeartbeats 1000000 in
theorem containsP_any (v : Value) (l : List Int) (w : World) (hs : Seg .i64 w v l) (key : Int) :
    Calls Tryd.prog 40 #[v, .int .i64 key] w fun e w' => e = .returned (.bool (decide (key ∈ l))) ∧ w = w' := by
  have HS := Lib.hid hs
  obtain ⟨o, c, rfl, _, _, _⟩ := hs.shape
  clear hs
  go_enter Tryd.func40, Tryd.ntmps40
  go_wp2_with fail
  refine (indexP_any _ l _ HS.out key).mono ?_
  rintro e w' ⟨r, rfl, hr, rfl⟩
  have HR := Lib.hid hr
  clear hr
  go_wp2
  go_ret
  rw [← HR.out]
  exact ⟨rfl, rfl⟩
set_option maxRecDepth 100000 in
/-- Whether a part may be such a text. -/
theorem allows_any (B k : Nat) (h1 : 1 ≤ k) (h8 : k ≤ 8) (u : ByteArray) (p : Nat) (hp : p < 4) (s : ByteArray) (hs : s.size ≤ 9223372036854775807) (w : World) (hk : KindsAt B w) :
    Calls Tryd.prog 24 #[.agg #[.string u, hasV B k], .int .i64 (p : Int), .string s] w fun e w' => e = .returned (.bool (partOk k p s)) ∧ Gr w w' := by
  have HC := Lib.hid (fun W (g : Below w.heap.size w W) => containsP_any (hasV B k) (hasL k) W ((hk k h1 h8).later g) (p : Int))
  rw [has_mem h1 h8 p hp] at HC
  obtain ⟨v, hv⟩ : ∃ v, v = hasV B k := ⟨_, rfl⟩
  have HV : ∃ o n c, v = .slice o n c := ⟨_, _, _, hv⟩
  rw [← hv] at HC ⊢
  obtain ⟨o, n, c, rfl⟩ := HV
  clear hv hk
  by_cases hh : hasB k p = true
  · by_cases h2 : p = 2
    · subst h2
      have HN := Lib.hid (fun W => bvalue_any s hs W)
      have hr : partOk k 2 s = valueB s := by simp [partOk, hh]
      rw [hr]
      rw [hh] at HC
      clear hh hr hs
      go_enter Tryd.func24, Tryd.ntmps24
      go_wp2_with fail
      refine (HC.out _ (Gr.alloc _ _).below).mono ?_
      rintro e w' ⟨rfl, rfl⟩
      go_wp2_with fail
      refine (HN.out _).mono ?_
      rintro e w' ⟨rfl, rfl⟩
      go_wp2
      go_ret
      exact ⟨rfl, Gr.alloc _ _⟩
    · have HN := Lib.hid (fun W => bname_any s hs W)
      have hr : partOk k p s = nameB s := by simp [partOk, hh, h2]
      have g2 : ((p : Int) == 2) = false := by simp; omega
      rw [hr]
      rw [hh] at HC
      clear hh hr hs h2
      go_enter Tryd.func24, Tryd.ntmps24
      go_wp2_with fail
      refine (HC.out _ (Gr.alloc _ _).below).mono ?_
      rintro e w' ⟨rfl, rfl⟩
      go_wp2_with fail
      refine (HN.out _).mono ?_
      rintro e w' ⟨rfl, rfl⟩
      go_wp2
      go_ret
      exact ⟨rfl, Gr.alloc _ _⟩
  · have hh : hasB k p = false := by simpa using hh
    rw [hh] at HC
    by_cases he : s = noB
    · have hr : partOk k p s = true := by simp [partOk, hh, he]
      rw [hr]
      subst he
      clear hh hr hs
      go_enter Tryd.func24, Tryd.ntmps24
      go_wp2_with fail
      refine (HC.out _ (Gr.alloc _ _).below).mono ?_
      rintro e w' ⟨rfl, rfl⟩
      go_wp2
      go_ret
      exact ⟨rfl, Gr.alloc _ _⟩
    · have hr : partOk k p s = false := by simp [partOk, hh, he]
      rw [hr]
      have hl : s.data.toList ≠ [] := fun e => he (bl_inj e)
      have hl2 : s.toList ≠ [] := by rw [Lib.toList_data]; exact hl
      have HE := Lib.hid hl2
      clear hh hr hs he hl hl2
      go_enter Tryd.func24, Tryd.ntmps24
      go_wp2_with fail
      refine (HC.out _ (Gr.alloc _ _).below).mono ?_
      rintro e w' ⟨rfl, rfl⟩
      go_wp2
      go_ret
      refine ⟨?_, Gr.alloc _ _⟩
      have := HE.out
      simp [this]
end Go.Proofs.YtoajaacdhkknfaaDoor

