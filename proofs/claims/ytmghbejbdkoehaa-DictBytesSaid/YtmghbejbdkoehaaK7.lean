/- dict.New. -/
import Derived.Test.YtmghbejbdkoehaaMf
import Derived.Test.YtmghbejbdkoehaaJ11
namespace Go.Proofs.Kit
open Go.RowKit
/-- No slice. -/
abbrev nilV : Value := .slice none 0 0
/-- A dictionary whose tables are rows of the call's own. -/
def DOw (ts ti : TypeId) (B : Nat) (w : World) (a b : Nat → Value) (T : Nat → List ByteArray) (S : Nat → List Int) : Prop := ∀ k, Ow ts B w (a k) ((T k).map Value.string) ∧ Ow ti B w (b k) ((S k).map (Value.int .i64))
section
variable {ts ti : TypeId} {B : Nat} {w w' : World} {a b : Nat → Value} {T : Nat → List ByteArray} {S : Nat → List Int}
theorem DOw.sl (h : DOw ts ti B w a b T S) : DSl w a b T S := fun k => ⟨(h k).1.sl, (h k).2.sl⟩
theorem DOw.later (h : DOw ts ti B w a b T S) (g : Below w.heap.size w w') : DOw ts ti B w' a b T S := fun k => ⟨(h k).1.later g, (h k).2.later g⟩
theorem DOw.mono {B' : Nat} (h : DOw ts ti B w a b T S) (hB : B' ≤ B) : DOw ts ti B' w a b T S := fun k => ⟨(h k).1.mono hB, (h k).2.mono hB⟩
theorem DOw.low_set (h : DOw ts ti B w a b T S) {p : Addr} (hp : p.block < B) (u : Value) : DOw ts ti B (w.setCell p u) a b T S := fun k => ⟨(h k).1.low_set hp u, (h k).2.low_set hp u⟩
/-- A store into a block of another type. -/
theorem DOw.set_blk (h : DOw ts ti B w a b T S) {g : Nat} {vs : Array Value} {t : TypeId} (hk : Blk w g vs t) (h1 : ts ≠ t) (h2 : ti ≠ t) (i : Nat) (u : Value) : DOw ts ti B (w.setCell ⟨g, i, none⟩ u) a b T S := fun k =>
  ⟨(h k).1.same fun r hr => Below.heap_setCell _ _ _ _ (fun e => (h k).1.ne_blk hk h1 (by rw [hr, e])), (h k).2.same fun r hr => Below.heap_setCell _ _ _ _ (fun e => (h k).2.ne_blk hk h2 (by rw [hr, e]))⟩
theorem DOw.aside {D : Nat} (h : DOw ts ti B w a b T S) (ha : Aside D w w') : DOw ts ti B w' a b T S := fun k => ⟨ha.ow (h k).1, ha.ow (h k).2⟩
theorem DOw.upd {n : Nat} {x y : Value} {t : List ByteArray} {s : List Int} (h : DOw ts ti B w a b T S) (hx : Ow ts B w x (t.map Value.string)) (hy : Ow ti B w y (s.map (Value.int .i64))) : DOw ts ti B w (upd a n x) (upd b n y) (upd T n t) (upd S n s) := fun k => by
  by_cases e : k = n
  · subst e; simp only [upd_same]; exact ⟨hx, hy⟩
  · simp only [upd_ne _ _ e]; exact h k
theorem DOw.nil (ts ti : TypeId) (B : Nat) (w : World) : DOw ts ti B w (fun _ => nilV) (fun _ => nilV) (fun _ => []) (fun _ => []) := fun _ => ⟨Ow.nil _ _ _, Ow.nil _ _ _⟩
theorem DOw.congr {T' : Nat → List ByteArray} {S' : Nat → List Int} (h : DOw ts ti B w a b T S) (hT : ∀ k, T k = T' k) (hS : ∀ k, S k = S' k) : DOw ts ti B w a b T' S' := fun k => by rw [← hT, ← hS]; exact h k
end
/-- Ten cells written. -/
def dsets (w : World) (g : Nat) (x y : Nat → Value) : World := (((((((((w.setCell ⟨g, 0, none⟩ (x 0)).setCell ⟨g, 1, none⟩ (y 0)).setCell ⟨g, 2, none⟩ (x 1)).setCell ⟨g, 3, none⟩ (y 1)).setCell ⟨g, 4, none⟩ (x 2)).setCell ⟨g, 5, none⟩ (y 2)).setCell ⟨g, 6, none⟩ (x 3)).setCell ⟨g, 7, none⟩ (y 3)).setCell ⟨g, 8, none⟩ (x 4)).setCell ⟨g, 9, none⟩ (y 4)
theorem dsets_blk {w : World} {g : Nat} {a b : Nat → Value} {t : TypeId} (h : Blk w g (dcs a b) t) (x y : Nat → Value) : Blk (dsets w g x y) g (dcs x y) t := by
  have h10 := (((((((((h.set 0 (x 0)).set 1 (y 0)).set 2 (x 1)).set 3 (y 1)).set 4 (x 2)).set 5 (y 2)).set 6 (x 3)).set 7 (y 3)).set 8 (x 4)).set 9 (y 4)
  have e : (((((((((((dcs a b).setIfInBounds 0 (x 0)).setIfInBounds 1 (y 0)).setIfInBounds 2 (x 1)).setIfInBounds 3 (y 1)).setIfInBounds 4 (x 2)).setIfInBounds 5 (y 2)).setIfInBounds 6 (x 3)).setIfInBounds 7 (y 3)).setIfInBounds 8 (x 4)).setIfInBounds 9 (y 4)) = dcs x y := by simp [dcs]
  rw [e] at h10
  unfold dsets
  exact h10
theorem dsets_other {w : World} {g g' : Nat} {vs : Array Value} {t : TypeId} (h : Blk w g' vs t) (hne : g' ≠ g) (x y : Nat → Value) : Blk (dsets w g x y) g' vs t :=
  (((((((((h.other hne _).other hne _).other hne _).other hne _).other hne _).other hne _).other hne _).other hne _).other hne _).other hne _
theorem dsets_below {B : Nat} {w0 w : World} {g : Nat} (h : Below B w0 w) (hg : B ≤ g) (x y : Nat → Value) : Below B w0 (dsets w g x y) :=
  (((((((((h.setCell (by simpa using hg) _).setCell (by simpa using hg) _).setCell (by simpa using hg) _).setCell (by simpa using hg) _).setCell (by simpa using hg) _).setCell (by simpa using hg) _).setCell (by simpa using hg) _).setCell (by simpa using hg) _).setCell (by simpa using hg) _).setCell (by simpa using hg) _
theorem dsets_heap {w : World} {g k : Nat} (hne : k ≠ g) (x y : Nat → Value) : (dsets w g x y).heap[k]? = w.heap[k]? := by
  unfold dsets
  repeat rw [Below.heap_setCell _ _ _ _ (by simpa using hne)]
theorem DOw.dsets {ts ti : TypeId} {B : Nat} {w : World} {a b : Nat → Value} {T : Nat → List ByteArray} {S : Nat → List Int} (h : DOw ts ti B w a b T S) {g : Nat} {vs : Array Value} {t : TypeId} (hk : Blk w g vs t) (h1 : ts ≠ t) (h2 : ti ≠ t) (x y : Nat → Value) : DOw ts ti B (dsets w g x y) a b T S := fun k =>
  ⟨(h k).1.same fun r hr => dsets_heap (fun e => (h k).1.ne_blk hk h1 (by rw [hr, e])) x y, (h k).2.same fun r hr => dsets_heap (fun e => (h k).2.ne_blk hk h2 (by rw [hr, e])) x y⟩
theorem st_slice {P : Program} {A : Nat → Value} (h : ∀ k, ∃ o m c, A k = .slice o m c) (k : Nat) (w : World) (p : Addr) (m : Mode) : (store p (A k) m).run P w = stored P w p (A k) m := by
  obtain ⟨o, n, c, e⟩ := h k
  exact run_store P w p _ m (by rw [e]; rfl)
theorem DOw.slA {ts ti : TypeId} {B : Nat} {w : World} {a b : Nat → Value} {T : Nat → List ByteArray} {S : Nat → List Int} (h : DOw ts ti B w a b T S) : (∀ k, ∃ o m c, a k = .slice o m c) ∧ ∀ k, ∃ o m c, b k = .slice o m c :=
  ⟨fun k => by obtain ⟨o, c, e⟩ := (h k).1.shape; exact ⟨o, _, c, e⟩, fun k => by obtain ⟨o, c, e⟩ := (h k).2.shape; exact ⟨o, _, c, e⟩⟩
/-- What a dictionary's ten cells hold. -/
theorem dcells {w : World} {g : Nat} {a b : Nat → Value} {t : TypeId} (h : Blk w g (dcs a b) t) : w.cell? ⟨g, 0, none⟩ = some (a 0) ∧ w.cell? ⟨g, 1, none⟩ = some (b 0) ∧ w.cell? ⟨g, 2, none⟩ = some (a 1) ∧ w.cell? ⟨g, 3, none⟩ = some (b 1) ∧ w.cell? ⟨g, 4, none⟩ = some (a 2) ∧ w.cell? ⟨g, 5, none⟩ = some (b 2) ∧ w.cell? ⟨g, 6, none⟩ = some (a 3) ∧ w.cell? ⟨g, 7, none⟩ = some (b 3) ∧ w.cell? ⟨g, 8, none⟩ = some (a 4) ∧ w.cell? ⟨g, 9, none⟩ = some (b 4) :=
  ⟨h.cell 0, h.cell 1, h.cell 2, h.cell 3, h.cell 4, h.cell 5, h.cell 6, h.cell 7, h.cell 8, h.cell 9⟩
/-- The slots of tables without texts. -/
def newS : Nat → List Int := fun k => if k < 5 then List.replicate 8 0 else []
def newSj (j : Nat) : Nat → List Int := fun k => if k < j then List.replicate 8 0 else []
theorem newSj_step (j k : Nat) : upd (newSj j) j (List.replicate 8 0) k = newSj (j + 1) k := by
  by_cases e : k = j
  · subst e; simp [newSj]
  · rw [upd_ne _ _ e]; unfold newSj; by_cases h : k < j
    · rw [if_pos h, if_pos (by omega)]
    · rw [if_neg h, if_neg (by omega)]
theorem upd_self {α : Type} (f : Nat → α) (k : Nat) : upd f k (f k) = f := by
  funext i
  by_cases e : i = k
  · subst e; simp
  · rw [upd_ne _ _ e]
end Go.Proofs.Kit
namespace Go.Proofs.Ytmghbejbdkoehaa
open Go.RowKit Go.Proofs.Kit Go.Shelf

set_option maxRecDepth 100000 in
set_option maxHeartbeats 2000000 in
theorem dnew_any (w : World) : Calls Try.prog 19 #[] w fun e w' => ∃ a b, e = .returned (.agg (dcs a b)) ∧ DOw 9 3 w.heap.size w' a b (fun _ => []) newS ∧ Below w.heap.size w w' := by
  go_enter Try.func19, Try.ntmps19
  go_wp2
  obtain ⟨W0, hW0⟩ : ∃ W0, W0 = (w.alloc (.cells (dcs (fun _ => nilV) (fun _ => nilV)) 28)).alloc (.cells (dcs (fun _ => nilV) (fun _ => nilV)) 28) := ⟨_, rfl⟩
  have k0 : Blk W0 w.heap.size (dcs (fun _ => nilV) (fun _ => nilV)) 28 := by rw [hW0]; exact (Blk.new w _ _).alloc _
  have k1 : Blk W0 (w.heap.size + 1) (dcs (fun _ => nilV) (fun _ => nilV)) 28 := by
    rw [hW0]; have := Blk.new (w.alloc (.cells (dcs (fun _ => nilV) (fun _ => nilV)) 28)) (dcs (fun _ => nilV) (fun _ => nilV)) 28; simpa using this
  have g0 : Below w.heap.size w W0 := by rw [hW0]; exact ((Gr.alloc _ _).trans (Gr.alloc _ _)).below
  have e0 : (w.alloc (.cells #[.slice none 0 0, .slice none 0 0, .slice none 0 0, .slice none 0 0, .slice none 0 0, .slice none 0 0, .slice none 0 0, .slice none 0 0, .slice none 0 0, .slice none 0 0] 28)).alloc (.cells #[.slice none 0 0, .slice none 0 0, .slice none 0 0, .slice none 0 0, .slice none 0 0, .slice none 0 0, .slice none 0 0, .slice none 0 0, .slice none 0 0, .slice none 0 0] 28) = W0 := by rw [hW0]; rfl
  rw [e0]
  have o0 := DOw.nil 9 3 w.heap.size W0
  clear e0 hW0
  go_loopw [2, 3] (fun _ i wr => ∃ j : Nat, j ≤ 5 ∧ i = .int .i64 (j : Int) ∧ Blk wr w.heap.size (dcs (fun _ => nilV) (fun _ => nilV)) 28 ∧ Below w.heap.size w wr ∧ ∃ A B, Blk wr (w.heap.size + 1) (dcs A B) 28 ∧ DOw 9 3 w.heap.size wr A B (fun _ => []) (newSj j)) (fun _ i _ => 5 - (intOf i).toNat)
  case atStart => exact ⟨0, Nat.zero_le _, rfl, k0, g0, _, _, k1, o0.congr (fun _ => rfl) (fun k => by simp [newSj])⟩
  case round =>
    obtain ⟨j, hj, rfl, k0, hB, A, B, k1, ho⟩ := hrel
    have hlt1 := k1.lt
    by_cases hlt : j < 5
    · have hlt' : (j : Int) < 5 := by omega
      have HK0 := Lib.hid k0
      have HK1 := Lib.hid k1
      have HO := Lib.hid ho
      have HB := Lib.hid hB
      clear k0 k1 ho hB o0 g0
      go_wp2_with fail
      refine (new_any _).mono ?_
      rintro e W2 ⟨nb, rfl, hn, g2⟩
      have k12 := HK1.out.later g2
      have k02 := HK0.out.later g2
      have c0 : W2.cell? ⟨w.heap.size + 1, j * 2, none⟩ = some (A j) := (k12.cell _).trans (dcs_fst A B hlt)
      have c1 : W2.cell? ⟨w.heap.size + 1, j * 2 + 1, none⟩ = some (B j) := (k12.cell _).trans (dcs_snd A B hlt)
      have z0 := k12.frozen (j * 2)
      have z1 := k12.frozen (j * 2 + 1)
      have l1 := k12.lt
      have oj := (HO.out.later g2)
      have hN := hn.mono HB.out.size
      obtain ⟨oaj, xaj, eaj⟩ := (oj j).1.shape
      obtain ⟨obj, xbj, ebj⟩ := (oj j).2.shape
      have HN := Lib.hid hN
      have HOJ := Lib.hid oj
      have K12 := Lib.hid k12
      have K02 := Lib.hid k02
      have HB2 := Lib.hid (HB.out.trans (g2.mono HB.out.size))
      rw [eaj] at c0
      rw [ebj] at c1
      clear hn g2 k12 k02 oj hN
      go_wp2
      go_roundw
      case rel =>
        refine ⟨j + 1, by omega, by go_num, ?_, ?_, upd A j nilV, upd B j (.slice (some ⟨nb, 0, none⟩) 8 8), ?_, ?_⟩
        · exact (K02.out.other (by simp) _).other (by simp) _
        · exact (HB2.out.setCell (by simp) _).setCell (by simp) _
        · have := (K12.out.set (j * 2) nilV).set (j * 2 + 1) (.slice (some ⟨nb, 0, none⟩) 8 8)
          rw [dcs_set_fst _ _ hlt, dcs_set_snd _ _ hlt] at this
          exact this
        · have o2 := (HOJ.out.set_blk K12.out (by decide) (by decide) (j * 2) nilV).set_blk (K12.out.set (j * 2) nilV) (by decide) (by decide) (j * 2 + 1) (.slice (some ⟨nb, 0, none⟩) 8 8)
          have n2 : Ow 3 w.heap.size ((W2.setCell ⟨w.heap.size + 1, j * 2, none⟩ nilV).setCell ⟨w.heap.size + 1, j * 2 + 1, none⟩ (.slice (some ⟨nb, 0, none⟩) 8 8)) (.slice (some ⟨nb, 0, none⟩) 8 8) ((List.replicate 8 (0 : Int)).map (Value.int .i64)) := by
            have hne : nb ≠ w.heap.size + 1 := fun e => HN.out.ne_blk K12.out (by decide) (by rw [e]; rfl)
            exact HN.out.same fun g hg => by
              obtain rfl : nb = g := by simpa [Value.ownBlock] using hg
              rw [Below.heap_setCell _ _ _ _ (by simpa using hne), Below.heap_setCell _ _ _ _ (by simpa using hne)]
          have := o2.upd (n := j) (t := []) (Ow.nil _ _ _) n2
          exact this.congr (fun k => by by_cases e : k = j <;> simp [upd, e]) (newSj_step j)
      case measure => simp [intOf]; omega
    · obtain rfl : j = 5 := by omega
      obtain ⟨sa, sb⟩ := ho.slA
      have hsa := fun k w p m => st_slice (P := Try.prog) sa k w p m
      have hsb := fun k w p m => st_slice (P := Try.prog) sb k w p m
      obtain ⟨c0, c1, c2, c3, c4, c5, c6, c7, c8, c9⟩ := dcells k1
      obtain ⟨d0, d1, d2, d3, d4, d5, d6, d7, d8, d9⟩ := dcells k0
      have z := k0.frozen
      have l0 := k0.lt
      have kR := dsets_blk k0 A B
      have oR := ho.dsets k0 (by decide) (by decide) A B
      have bR := dsets_below hB (Nat.le_refl _) A B
      obtain ⟨r0, r1, r2, r3, r4, r5, r6, r7, r8, r9⟩ := dcells kR
      have HR := Lib.hid (And.intro oR bR)
      unfold dsets at r0 r1 r2 r3 r4 r5 r6 r7 r8 r9
      clear ho hB kR oR bR k1 k0 g0 o0
      go_wp2
      exact bodyPost_ret (v := .agg (dcs A B)) (by simp [results, Try.results19, go_sem, r0, r1, r2, r3, r4, r5, r6, r7, r8, r9, dcs]) rfl ⟨A, B, rfl, HR.out.1.congr (fun _ => rfl) (fun _ => rfl), HR.out.2⟩
end Go.Proofs.Ytmghbejbdkoehaa

