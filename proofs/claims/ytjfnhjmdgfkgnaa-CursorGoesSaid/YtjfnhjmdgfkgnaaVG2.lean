/- CursorGoes: where a cursor stands, move by move: for all tries and all rows of moves the law returns true. No condition. -/
import Derived.Test.YtjfnhjmdgfkgnaaVG1
import Derived.Deep.CutBlock
import Derived.Test.YtjfnhjmdgfkgnaaV16
import Derived.Test.YtjfnhjmdgfkgnaaH5
import Derived.Test.YtjfnhjmdgfkgnaaVD
/- The reference's place behind a move. -/
namespace Go.Proofs.Kit
open Go.RowKit
/-- The place behind a move that can be made. -/
def pgo (p : PS) (k : Int) (far : Nat) : PS :=
  if k = 1 then (if p.D = 0 then ⟨1, 0, p.a2, p.lo + 1, p.hi + 1⟩ else ⟨2, p.a1, 0, p.lo + 1, p.hi + 1⟩)
  else if k = 2 then ⟨p.D - 1, p.a1, p.a2, p.lo, p.hi⟩
  else if k = 3 then (if p.D = 1 then ⟨1, p.a1 + 1, p.a2, p.lo + 1, p.hi + 1⟩ else ⟨2, p.a1, p.a2 + 1, p.lo + 1, p.hi + 1⟩)
  else (if p.D = 1 then ⟨1, p.a1 + far, p.a2, p.lo + 1, p.hi + 2 + 2 * Nat.log2 (1 + far)⟩ else ⟨2, p.a1, p.a2 + far, p.lo + 1, p.hi + 2 + 2 * Nat.log2 (1 + far)⟩)
section
variable {w : World} {b : Nat} {x0 x1 x2 x3 x4 x5 x6 x7 : Value} {t : TypeId}
theorem Blk.set8 (h : Blk w b #[x0, x1, x2, x3, x4, x5, x6, x7] t) (u0 u1 u2 u3 u4 u5 u6 u7 : Value) :
    Blk ((((((((w.setCell ⟨b, 0, none⟩ u0).setCell ⟨b, 1, none⟩ u1).setCell ⟨b, 2, none⟩ u2).setCell ⟨b, 3, none⟩ u3).setCell ⟨b, 4, none⟩ u4).setCell ⟨b, 5, none⟩ u5).setCell ⟨b, 6, none⟩ u6).setCell ⟨b, 7, none⟩ u7) b #[u0, u1, u2, u3, u4, u5, u6, u7] t := by
  simpa using (((((((h.set 0 u0).set 1 u1).set 2 u2).set 3 u3).set 4 u4).set 5 u5).set 6 u6).set 7 u7
theorem below_set8 {B : Nat} {w0 : World} (h : Below B w0 w) (hb : B ≤ b) (u0 u1 u2 u3 u4 u5 u6 u7 : Value) :
    Below B w0 ((((((((w.setCell ⟨b, 0, none⟩ u0).setCell ⟨b, 1, none⟩ u1).setCell ⟨b, 2, none⟩ u2).setCell ⟨b, 3, none⟩ u3).setCell ⟨b, 4, none⟩ u4).setCell ⟨b, 5, none⟩ u5).setCell ⟨b, 6, none⟩ u6).setCell ⟨b, 7, none⟩ u7) :=
  (((((((h.setCell hb u0).setCell hb u1).setCell hb u2).setCell hb u3).setCell hb u4).setCell hb u5).setCell hb u6).setCell hb u7
end
/-- The zero place. -/
abbrev nilP8 : Array Value := #[.slice none 0 0, .slice none 0 0, .int .i64 0, .int .i64 0, .int .i64 0, .int .i64 0, .int .i64 0, .int .i64 0]
end Go.Proofs.Kit
namespace Go.Proofs.Ytjfnhjmdgfkgnaa
open Go.RowKit Go.Proofs.Kit Go.Shelf
theorem z8 {w : World} {b : Nat} {xs : Array Value} {t : TypeId} (h : Blk w b xs t) : w.frozen? ⟨b, 0, none⟩ = false ∧ w.frozen? ⟨b, 1, none⟩ = false ∧ w.frozen? ⟨b, 2, none⟩ = false ∧ w.frozen? ⟨b, 3, none⟩ = false ∧ w.frozen? ⟨b, 4, none⟩ = false ∧ w.frozen? ⟨b, 5, none⟩ = false ∧ w.frozen? ⟨b, 6, none⟩ = false ∧ w.frozen? ⟨b, 7, none⟩ = false :=
  ⟨h.frozen 0, h.frozen 1, h.frozen 2, h.frozen 3, h.frozen 4, h.frozen 5, h.frozen 6, h.frozen 7⟩
theorem zp_cells {w : World} {g : Nat} (h : Blk w g nilP8 65) :
    w.cell? ⟨g, 0, none⟩ = some (.slice none 0 0) ∧ w.cell? ⟨g, 1, none⟩ = some (.slice none 0 0) ∧ w.cell? ⟨g, 2, none⟩ = some (.int .i64 0) ∧ w.cell? ⟨g, 3, none⟩ = some (.int .i64 0) ∧ w.cell? ⟨g, 4, none⟩ = some (.int .i64 0) ∧ w.cell? ⟨g, 5, none⟩ = some (.int .i64 0) ∧ w.cell? ⟨g, 6, none⟩ = some (.int .i64 0) ∧ w.cell? ⟨g, 7, none⟩ = some (.int .i64 0) ∧ g < w.heap.size :=
  ⟨h.cell 0, h.cell 1, h.cell 2, h.cell 3, h.cell 4, h.cell 5, h.cell 6, h.cell 7, h.lt⟩
section
variable {ob : Option Addr} {m cb : Nat} {ol : Option Addr} {q cl : Nat} {bs : List Br} {lv : List Int} {w : World}
set_option maxRecDepth 100000 in
set_option maxHeartbeats 8000000 in
theorem pMove_any (p : PS) (h : T8 ob m cb ol q cl bs lv w) (hbs : bs.length ≤ 100) (hls : lv.length ≤ 100) (hok : ok7 bs lv) (hp : Pok bs lv p) (s : Nat) (k key : Int) (hlo : p.lo ≤ 1000000) (hhi : p.hi ≤ 1000000) :
    Calls Try.prog 36 #[PV8 ob m cb ol q cl p, .agg #[.int .i64 k, .int .u64 key]] w fun e w' => e = .returned (.tuple #[PV8 ob m cb ol q cl (if cerr k (csOf bs lv p s) = 0 then pgo p k (cfar key (csOf bs lv p s)) else p), .int .i64 (cerr k (csOf bs lv p s))]) ∧ Below w.heap.size w w' := by
  have HW := Lib.hid (fun W (g : Below w.heap.size w W) => pWhy_any p (h.later g) hbs hls hok hp s k key)
  have HT := Lib.hid h
  have hcd : (csOf bs lv p s).d = p.D := rfl
  obtain ⟨cc, hcc⟩ : ∃ cc, cc = cerr k (csOf bs lv p s) := ⟨_, rfl⟩
  obtain ⟨far, hfar⟩ : ∃ far, far = cfar key (csOf bs lv p s) := ⟨_, rfl⟩
  rw [← hcc, ← hfar]
  rw [← hcc] at HW
  have hd := hp.d2
  have HOK := Lib.hid hp
  obtain ⟨D, a1, a2, lo, hi⟩ := p
  simp only at hd hcd hlo hhi
  have HCC := Lib.hid hcc
  have HFAR := Lib.hid hfar
  clear hcc hfar hp h
  obtain ⟨W0, hW0⟩ : ∃ W0, W0 = ((w.alloc (.cells (PC ob m cb ol q cl (D : Int) 0 (a1 : Int) (a2 : Int) (lo : Int) (hi : Int)) 65)).alloc (.cells #[.int .i64 k, .int .u64 key] 70)).alloc (.cells nilP8 65) := ⟨_, rfl⟩
  have HB0 := Lib.hid (show Blk W0 w.heap.size (PC ob m cb ol q cl (D : Int) 0 (a1 : Int) (a2 : Int) (lo : Int) (hi : Int)) 65 from by rw [hW0]; exact ((Blk.new _ _ _).later (Gr.alloc _ _).below).later (Gr.alloc _ _).below)
  have HK0 := Lib.hid (show Blk W0 (w.heap.size + 1) #[.int .i64 k, .int .u64 key] 70 from by rw [hW0]; simpa using (Blk.new (w.alloc (.cells (PC ob m cb ol q cl (D : Int) 0 (a1 : Int) (a2 : Int) (lo : Int) (hi : Int)) 65)) #[.int .i64 k, .int .u64 key] 70).later (Gr.alloc _ _).below)
  have HZ0 := Lib.hid (show Blk W0 (w.heap.size + 1 + 1) nilP8 65 from by rw [hW0]; simpa using Blk.new ((w.alloc (.cells (PC ob m cb ol q cl (D : Int) 0 (a1 : Int) (a2 : Int) (lo : Int) (hi : Int)) 65)).alloc (.cells #[.int .i64 k, .int .u64 key] 70)) nilP8 65)
  have LO0 := Lib.hid (show Below w.heap.size w W0 from by rw [hW0]; exact (((Gr.alloc _ _).trans (Gr.alloc _ _)).trans (Gr.alloc _ _)).below)
  obtain ⟨c0, c1, c2, c3, c4, c5, c6, c7, lc⟩ := pc_cells HB0.out
  obtain ⟨e0, e1, el⟩ := HK0.out.two
  go_enter Try.func36, Try.ntmps36
  go_upto_region 1 with fail
  rw [← hW0]
  clear hW0
  go_wp2_with fail
  refine (HW.out _ LO0.out).mono ?_
  rintro e w1 ⟨rfl, l1⟩
  have HB := Lib.hid (HB0.out.later l1)
  have HK := Lib.hid (HK0.out.later l1)
  have HZ := Lib.hid (HZ0.out.later l1)
  have LO := Lib.hid (below_later LO0.out l1)
  clear l1 c0 c1 c2 c3 c4 c5 c6 c7 lc e0 e1 el HW HB0 HK0 HZ0 LO0
  obtain ⟨c0, c1, c2, c3, c4, c5, c6, c7, lc⟩ := pc_cells HB.out
  obtain ⟨e0, e1, el⟩ := HK.out.two
  obtain ⟨f0, f1, f2, f3, f4, f5, f6, f7, lf⟩ := zp_cells HZ.out
  obtain ⟨z0, z1, z2, z3, z4, z5, z6, z7⟩ := z8 HZ.out
  by_cases hc0 : cc = 0
  · subst hc0
    have hx := HCC.out
    unfold cerr at hx
    rw [hcd] at hx
    have hk1 : ¬ (k < 1 ∨ 4 < k) := fun e => by rw [if_pos e] at hx; cases hx
    rw [if_neg hk1] at hx
    have hk2 : ¬ ((k = 1 ∧ D = 2) ∨ (k ≠ 1 ∧ D = 0)) := fun e => by rw [if_pos e] at hx; cases hx
    rw [if_neg hk2] at hx
    have hk3 : ¬ (k ≠ 2 ∧ 0 < D ∧ (csOf bs lv ⟨D, a1, a2, lo, hi⟩ s).row = []) := fun e => by rw [if_pos e] at hx; cases hx
    have hks : (k = 1 ∧ D = 0) ∨ (k = 1 ∧ D = 1) ∨ (k = 2 ∧ D = 1) ∨ (k = 2 ∧ D = 2) ∨ (k = 3 ∧ D = 1) ∨ (k = 3 ∧ D = 2) ∨ (k = 4 ∧ D = 1) ∨ (k = 4 ∧ D = 2) := by omega
    have HK3 := Lib.hid hk3
    clear hx hk1 hk2 hk3 HCC hcd
    rcases hks with ⟨rfl, rfl⟩ | ⟨rfl, rfl⟩ | ⟨rfl, rfl⟩ | ⟨rfl, rfl⟩ | ⟨rfl, rfl⟩ | ⟨rfl, rfl⟩ | ⟨rfl, rfl⟩ | ⟨rfl, rfl⟩
    · obtain ⟨y0, y1, y2, y3, y4, y5, y6, y7⟩ := z8 HB.out
      go_upto_region 18 with fail
      obtain ⟨Wf, hWf⟩ : ∃ Wf, Wf = ((((w1.setCell ⟨w.heap.size, 2, none⟩ (.int .i64 (1))).setCell ⟨w.heap.size, 4, none⟩ (.int .i64 (0))).setCell ⟨w.heap.size, 6, none⟩ (.int .i64 ((lo : Int) + 1))).setCell ⟨w.heap.size, 7, none⟩ (.int .i64 ((hi : Int) + 1))) := ⟨_, rfl⟩
      have kb : Blk Wf w.heap.size (PC ob m cb ol q cl (1) 0 (0) ((a2 : Int)) ((lo : Int) + 1) ((hi : Int) + 1)) 65 := by rw [hWf]; simpa using ((((HB.out.set 2 (.int .i64 (1))).set 4 (.int .i64 (0))).set 6 (.int .i64 ((lo : Int) + 1))).set 7 (.int .i64 ((hi : Int) + 1)))
      have kz : Blk Wf (w.heap.size + 1 + 1) nilP8 65 := by rw [hWf]; exact ((((HZ.out.other (p := ⟨w.heap.size, 2, none⟩) (by simp; omega) (.int .i64 (1))).other (p := ⟨w.heap.size, 4, none⟩) (by simp; omega) (.int .i64 (0))).other (p := ⟨w.heap.size, 6, none⟩) (by simp; omega) (.int .i64 ((lo : Int) + 1))).other (p := ⟨w.heap.size, 7, none⟩) (by simp; omega) (.int .i64 ((hi : Int) + 1)))
      have ll : Below w.heap.size w Wf := by rw [hWf]; exact ((((LO.out.setCell (p := ⟨w.heap.size, 2, none⟩) (Nat.le_refl _) (.int .i64 (1))).setCell (p := ⟨w.heap.size, 4, none⟩) (Nat.le_refl _) (.int .i64 (0))).setCell (p := ⟨w.heap.size, 6, none⟩) (Nat.le_refl _) (.int .i64 ((lo : Int) + 1))).setCell (p := ⟨w.heap.size, 7, none⟩) (Nat.le_refl _) (.int .i64 ((hi : Int) + 1)))
      rw [← hWf]
      clear hWf c0 c1 c2 c3 c4 c5 c6 c7 lc e0 e1 el f0 f1 f2 f3 f4 f5 f6 f7 lf z0 z1 z2 z3 z4 z5 z6 z7 y0 y1 y2 y3 y4 y5 y6 y7
      obtain ⟨c0, c1, c2, c3, c4, c5, c6, c7, lc⟩ := pc_cells kb
      obtain ⟨f0, f1, f2, f3, f4, f5, f6, f7, lf⟩ := zp_cells kz
      obtain ⟨z0, z1, z2, z3, z4, z5, z6, z7⟩ := z8 kz
      have k8 := kz.set8 (.slice ob m cb) (.slice ol q cl) (.int .i64 (1)) (.int .i64 (0)) (.int .i64 (0)) (.int .i64 ((a2 : Int))) (.int .i64 ((lo : Int) + 1)) (.int .i64 ((hi : Int) + 1))
      have LZ := Lib.hid (below_set8 (b := w.heap.size + 1 + 1) ll (by omega) (.slice ob m cb) (.slice ol q cl) (.int .i64 (1)) (.int .i64 (0)) (.int .i64 (0)) (.int .i64 ((a2 : Int))) (.int .i64 ((lo : Int) + 1)) (.int .i64 ((hi : Int) + 1)))
      obtain ⟨r0, r1, r2, r3, r4, r5, r6, r7, -⟩ := pc_cells k8
      have HR := Lib.hid (And.intro r0 (And.intro r1 (And.intro r2 (And.intro r3 (And.intro r4 (And.intro r5 (And.intro r6 r7)))))))
      clear r0 r1 r2 r3 r4 r5 r6 r7 kb kz ll k8
      go_wp2
      obtain ⟨r0, r1, r2, r3, r4, r5, r6, r7⟩ := HR.out
      exact bodyPost_ret (v := .tuple #[.agg (PC ob m cb ol q cl (1) 0 (0) ((a2 : Int)) ((lo : Int) + 1) ((hi : Int) + 1)), .int .i64 0]) (by simp [results, Try.results36, go_sem, r0, r1, r2, r3, r4, r5, r6, r7]) rfl ⟨by simp [pgo], LZ.out⟩
    · obtain ⟨y0, y1, y2, y3, y4, y5, y6, y7⟩ := z8 HB.out
      go_upto_region 18 with fail
      obtain ⟨Wf, hWf⟩ : ∃ Wf, Wf = ((((w1.setCell ⟨w.heap.size, 2, none⟩ (.int .i64 (2))).setCell ⟨w.heap.size, 5, none⟩ (.int .i64 (0))).setCell ⟨w.heap.size, 6, none⟩ (.int .i64 ((lo : Int) + 1))).setCell ⟨w.heap.size, 7, none⟩ (.int .i64 ((hi : Int) + 1))) := ⟨_, rfl⟩
      have kb : Blk Wf w.heap.size (PC ob m cb ol q cl (2) 0 ((a1 : Int)) (0) ((lo : Int) + 1) ((hi : Int) + 1)) 65 := by rw [hWf]; simpa using ((((HB.out.set 2 (.int .i64 (2))).set 5 (.int .i64 (0))).set 6 (.int .i64 ((lo : Int) + 1))).set 7 (.int .i64 ((hi : Int) + 1)))
      have kz : Blk Wf (w.heap.size + 1 + 1) nilP8 65 := by rw [hWf]; exact ((((HZ.out.other (p := ⟨w.heap.size, 2, none⟩) (by simp; omega) (.int .i64 (2))).other (p := ⟨w.heap.size, 5, none⟩) (by simp; omega) (.int .i64 (0))).other (p := ⟨w.heap.size, 6, none⟩) (by simp; omega) (.int .i64 ((lo : Int) + 1))).other (p := ⟨w.heap.size, 7, none⟩) (by simp; omega) (.int .i64 ((hi : Int) + 1)))
      have ll : Below w.heap.size w Wf := by rw [hWf]; exact ((((LO.out.setCell (p := ⟨w.heap.size, 2, none⟩) (Nat.le_refl _) (.int .i64 (2))).setCell (p := ⟨w.heap.size, 5, none⟩) (Nat.le_refl _) (.int .i64 (0))).setCell (p := ⟨w.heap.size, 6, none⟩) (Nat.le_refl _) (.int .i64 ((lo : Int) + 1))).setCell (p := ⟨w.heap.size, 7, none⟩) (Nat.le_refl _) (.int .i64 ((hi : Int) + 1)))
      rw [← hWf]
      clear hWf c0 c1 c2 c3 c4 c5 c6 c7 lc e0 e1 el f0 f1 f2 f3 f4 f5 f6 f7 lf z0 z1 z2 z3 z4 z5 z6 z7 y0 y1 y2 y3 y4 y5 y6 y7
      obtain ⟨c0, c1, c2, c3, c4, c5, c6, c7, lc⟩ := pc_cells kb
      obtain ⟨f0, f1, f2, f3, f4, f5, f6, f7, lf⟩ := zp_cells kz
      obtain ⟨z0, z1, z2, z3, z4, z5, z6, z7⟩ := z8 kz
      have k8 := kz.set8 (.slice ob m cb) (.slice ol q cl) (.int .i64 (2)) (.int .i64 (0)) (.int .i64 ((a1 : Int))) (.int .i64 (0)) (.int .i64 ((lo : Int) + 1)) (.int .i64 ((hi : Int) + 1))
      have LZ := Lib.hid (below_set8 (b := w.heap.size + 1 + 1) ll (by omega) (.slice ob m cb) (.slice ol q cl) (.int .i64 (2)) (.int .i64 (0)) (.int .i64 ((a1 : Int))) (.int .i64 (0)) (.int .i64 ((lo : Int) + 1)) (.int .i64 ((hi : Int) + 1)))
      obtain ⟨r0, r1, r2, r3, r4, r5, r6, r7, -⟩ := pc_cells k8
      have HR := Lib.hid (And.intro r0 (And.intro r1 (And.intro r2 (And.intro r3 (And.intro r4 (And.intro r5 (And.intro r6 r7)))))))
      clear r0 r1 r2 r3 r4 r5 r6 r7 kb kz ll k8
      go_wp2
      obtain ⟨r0, r1, r2, r3, r4, r5, r6, r7⟩ := HR.out
      exact bodyPost_ret (v := .tuple #[.agg (PC ob m cb ol q cl (2) 0 ((a1 : Int)) (0) ((lo : Int) + 1) ((hi : Int) + 1)), .int .i64 0]) (by simp [results, Try.results36, go_sem, r0, r1, r2, r3, r4, r5, r6, r7]) rfl ⟨by simp [pgo], LZ.out⟩
    · obtain ⟨y0, y1, y2, y3, y4, y5, y6, y7⟩ := z8 HB.out
      go_upto_region 18 with fail
      obtain ⟨Wf, hWf⟩ : ∃ Wf, Wf = (w1.setCell ⟨w.heap.size, 2, none⟩ (.int .i64 (0))) := ⟨_, rfl⟩
      have kb : Blk Wf w.heap.size (PC ob m cb ol q cl (0) 0 ((a1 : Int)) ((a2 : Int)) ((lo : Int)) ((hi : Int))) 65 := by rw [hWf]; simpa using (HB.out.set 2 (.int .i64 (0)))
      have kz : Blk Wf (w.heap.size + 1 + 1) nilP8 65 := by rw [hWf]; exact (HZ.out.other (p := ⟨w.heap.size, 2, none⟩) (by simp; omega) (.int .i64 (0)))
      have ll : Below w.heap.size w Wf := by rw [hWf]; exact (LO.out.setCell (p := ⟨w.heap.size, 2, none⟩) (Nat.le_refl _) (.int .i64 (0)))
      rw [← hWf]
      clear hWf c0 c1 c2 c3 c4 c5 c6 c7 lc e0 e1 el f0 f1 f2 f3 f4 f5 f6 f7 lf z0 z1 z2 z3 z4 z5 z6 z7 y0 y1 y2 y3 y4 y5 y6 y7
      obtain ⟨c0, c1, c2, c3, c4, c5, c6, c7, lc⟩ := pc_cells kb
      obtain ⟨f0, f1, f2, f3, f4, f5, f6, f7, lf⟩ := zp_cells kz
      obtain ⟨z0, z1, z2, z3, z4, z5, z6, z7⟩ := z8 kz
      have k8 := kz.set8 (.slice ob m cb) (.slice ol q cl) (.int .i64 (0)) (.int .i64 (0)) (.int .i64 ((a1 : Int))) (.int .i64 ((a2 : Int))) (.int .i64 ((lo : Int))) (.int .i64 ((hi : Int)))
      have LZ := Lib.hid (below_set8 (b := w.heap.size + 1 + 1) ll (by omega) (.slice ob m cb) (.slice ol q cl) (.int .i64 (0)) (.int .i64 (0)) (.int .i64 ((a1 : Int))) (.int .i64 ((a2 : Int))) (.int .i64 ((lo : Int))) (.int .i64 ((hi : Int))))
      obtain ⟨r0, r1, r2, r3, r4, r5, r6, r7, -⟩ := pc_cells k8
      have HR := Lib.hid (And.intro r0 (And.intro r1 (And.intro r2 (And.intro r3 (And.intro r4 (And.intro r5 (And.intro r6 r7)))))))
      clear r0 r1 r2 r3 r4 r5 r6 r7 kb kz ll k8
      go_wp2
      obtain ⟨r0, r1, r2, r3, r4, r5, r6, r7⟩ := HR.out
      exact bodyPost_ret (v := .tuple #[.agg (PC ob m cb ol q cl (0) 0 ((a1 : Int)) ((a2 : Int)) ((lo : Int)) ((hi : Int))), .int .i64 0]) (by simp [results, Try.results36, go_sem, r0, r1, r2, r3, r4, r5, r6, r7]) rfl ⟨by simp [pgo], LZ.out⟩
    · obtain ⟨y0, y1, y2, y3, y4, y5, y6, y7⟩ := z8 HB.out
      go_upto_region 18 with fail
      obtain ⟨Wf, hWf⟩ : ∃ Wf, Wf = (w1.setCell ⟨w.heap.size, 2, none⟩ (.int .i64 (1))) := ⟨_, rfl⟩
      have kb : Blk Wf w.heap.size (PC ob m cb ol q cl (1) 0 ((a1 : Int)) ((a2 : Int)) ((lo : Int)) ((hi : Int))) 65 := by rw [hWf]; simpa using (HB.out.set 2 (.int .i64 (1)))
      have kz : Blk Wf (w.heap.size + 1 + 1) nilP8 65 := by rw [hWf]; exact (HZ.out.other (p := ⟨w.heap.size, 2, none⟩) (by simp; omega) (.int .i64 (1)))
      have ll : Below w.heap.size w Wf := by rw [hWf]; exact (LO.out.setCell (p := ⟨w.heap.size, 2, none⟩) (Nat.le_refl _) (.int .i64 (1)))
      rw [← hWf]
      clear hWf c0 c1 c2 c3 c4 c5 c6 c7 lc e0 e1 el f0 f1 f2 f3 f4 f5 f6 f7 lf z0 z1 z2 z3 z4 z5 z6 z7 y0 y1 y2 y3 y4 y5 y6 y7
      obtain ⟨c0, c1, c2, c3, c4, c5, c6, c7, lc⟩ := pc_cells kb
      obtain ⟨f0, f1, f2, f3, f4, f5, f6, f7, lf⟩ := zp_cells kz
      obtain ⟨z0, z1, z2, z3, z4, z5, z6, z7⟩ := z8 kz
      have k8 := kz.set8 (.slice ob m cb) (.slice ol q cl) (.int .i64 (1)) (.int .i64 (0)) (.int .i64 ((a1 : Int))) (.int .i64 ((a2 : Int))) (.int .i64 ((lo : Int))) (.int .i64 ((hi : Int)))
      have LZ := Lib.hid (below_set8 (b := w.heap.size + 1 + 1) ll (by omega) (.slice ob m cb) (.slice ol q cl) (.int .i64 (1)) (.int .i64 (0)) (.int .i64 ((a1 : Int))) (.int .i64 ((a2 : Int))) (.int .i64 ((lo : Int))) (.int .i64 ((hi : Int))))
      obtain ⟨r0, r1, r2, r3, r4, r5, r6, r7, -⟩ := pc_cells k8
      have HR := Lib.hid (And.intro r0 (And.intro r1 (And.intro r2 (And.intro r3 (And.intro r4 (And.intro r5 (And.intro r6 r7)))))))
      clear r0 r1 r2 r3 r4 r5 r6 r7 kb kz ll k8
      go_wp2
      obtain ⟨r0, r1, r2, r3, r4, r5, r6, r7⟩ := HR.out
      exact bodyPost_ret (v := .tuple #[.agg (PC ob m cb ol q cl (1) 0 ((a1 : Int)) ((a2 : Int)) ((lo : Int)) ((hi : Int))), .int .i64 0]) (by simp [results, Try.results36, go_sem, r0, r1, r2, r3, r4, r5, r6, r7]) rfl ⟨by simp [pgo], LZ.out⟩
    · obtain ⟨y0, y1, y2, y3, y4, y5, y6, y7⟩ := z8 HB.out
      have hA : a1 ≤ 100 := by have := HOK.out.b1 (Nat.le_refl 1); simp only at this; omega
      go_upto_region 16 with fail
      go_region_law (fail)
      all_goals
        go_upto_region 18 with fail
        obtain ⟨Wf, hWf⟩ : ∃ Wf, Wf = (((w1.setCell ⟨w.heap.size, 4, none⟩ (.int .i64 ((a1 : Int) + 1))).setCell ⟨w.heap.size, 6, none⟩ (.int .i64 ((lo : Int) + 1))).setCell ⟨w.heap.size, 7, none⟩ (.int .i64 ((hi : Int) + 1))).drew := ⟨_, rfl⟩
        have kb : Blk Wf w.heap.size (PC ob m cb ol q cl (1) 0 ((a1 : Int) + 1) ((a2 : Int)) ((lo : Int) + 1) ((hi : Int) + 1)) 65 := by rw [hWf]; exact (show Blk (((w1.setCell ⟨w.heap.size, 4, none⟩ (.int .i64 ((a1 : Int) + 1))).setCell ⟨w.heap.size, 6, none⟩ (.int .i64 ((lo : Int) + 1))).setCell ⟨w.heap.size, 7, none⟩ (.int .i64 ((hi : Int) + 1))) _ _ _ from by simpa using (((HB.out.set 4 (.int .i64 ((a1 : Int) + 1))).set 6 (.int .i64 ((lo : Int) + 1))).set 7 (.int .i64 ((hi : Int) + 1))))
        have kz : Blk Wf (w.heap.size + 1 + 1) nilP8 65 := by rw [hWf]; exact (((HZ.out.other (p := ⟨w.heap.size, 4, none⟩) (by simp; omega) (.int .i64 ((a1 : Int) + 1))).other (p := ⟨w.heap.size, 6, none⟩) (by simp; omega) (.int .i64 ((lo : Int) + 1))).other (p := ⟨w.heap.size, 7, none⟩) (by simp; omega) (.int .i64 ((hi : Int) + 1)))
        have ll : Below w.heap.size w Wf := by rw [hWf]; exact (((LO.out.setCell (p := ⟨w.heap.size, 4, none⟩) (Nat.le_refl _) (.int .i64 ((a1 : Int) + 1))).setCell (p := ⟨w.heap.size, 6, none⟩) (Nat.le_refl _) (.int .i64 ((lo : Int) + 1))).setCell (p := ⟨w.heap.size, 7, none⟩) (Nat.le_refl _) (.int .i64 ((hi : Int) + 1))).drew
        rw [← hWf]
        clear hWf c0 c1 c2 c3 c4 c5 c6 c7 lc e0 e1 el f0 f1 f2 f3 f4 f5 f6 f7 lf z0 z1 z2 z3 z4 z5 z6 z7 y0 y1 y2 y3 y4 y5 y6 y7
        obtain ⟨c0, c1, c2, c3, c4, c5, c6, c7, lc⟩ := pc_cells kb
        obtain ⟨f0, f1, f2, f3, f4, f5, f6, f7, lf⟩ := zp_cells kz
        obtain ⟨z0, z1, z2, z3, z4, z5, z6, z7⟩ := z8 kz
        have k8 := kz.set8 (.slice ob m cb) (.slice ol q cl) (.int .i64 (1)) (.int .i64 (0)) (.int .i64 ((a1 : Int) + 1)) (.int .i64 ((a2 : Int))) (.int .i64 ((lo : Int) + 1)) (.int .i64 ((hi : Int) + 1))
        have LZ := Lib.hid (below_set8 (b := w.heap.size + 1 + 1) ll (by omega) (.slice ob m cb) (.slice ol q cl) (.int .i64 (1)) (.int .i64 (0)) (.int .i64 ((a1 : Int) + 1)) (.int .i64 ((a2 : Int))) (.int .i64 ((lo : Int) + 1)) (.int .i64 ((hi : Int) + 1)))
        obtain ⟨r0, r1, r2, r3, r4, r5, r6, r7, -⟩ := pc_cells k8
        have HR := Lib.hid (And.intro r0 (And.intro r1 (And.intro r2 (And.intro r3 (And.intro r4 (And.intro r5 (And.intro r6 r7)))))))
        clear r0 r1 r2 r3 r4 r5 r6 r7 kb kz ll k8
        go_wp2
        obtain ⟨r0, r1, r2, r3, r4, r5, r6, r7⟩ := HR.out
        exact bodyPost_ret (v := .tuple #[.agg (PC ob m cb ol q cl (1) 0 ((a1 : Int) + 1) ((a2 : Int)) ((lo : Int) + 1) ((hi : Int) + 1)), .int .i64 0]) (by simp [results, Try.results36, go_sem, r0, r1, r2, r3, r4, r5, r6, r7]) rfl ⟨by simp [pgo], LZ.out⟩
    · obtain ⟨y0, y1, y2, y3, y4, y5, y6, y7⟩ := z8 HB.out
      have hA : a2 ≤ 100 := by have := (HOK.out.b2 rfl).2; have h3 := r2At_len bs lv a1; simp only at this; omega
      go_upto_region 16 with fail
      go_region_law (fail)
      all_goals
        go_upto_region 18 with fail
        obtain ⟨Wf, hWf⟩ : ∃ Wf, Wf = (((w1.setCell ⟨w.heap.size, 5, none⟩ (.int .i64 ((a2 : Int) + 1))).setCell ⟨w.heap.size, 6, none⟩ (.int .i64 ((lo : Int) + 1))).setCell ⟨w.heap.size, 7, none⟩ (.int .i64 ((hi : Int) + 1))).drew := ⟨_, rfl⟩
        have kb : Blk Wf w.heap.size (PC ob m cb ol q cl (2) 0 ((a1 : Int)) ((a2 : Int) + 1) ((lo : Int) + 1) ((hi : Int) + 1)) 65 := by rw [hWf]; exact (show Blk (((w1.setCell ⟨w.heap.size, 5, none⟩ (.int .i64 ((a2 : Int) + 1))).setCell ⟨w.heap.size, 6, none⟩ (.int .i64 ((lo : Int) + 1))).setCell ⟨w.heap.size, 7, none⟩ (.int .i64 ((hi : Int) + 1))) _ _ _ from by simpa using (((HB.out.set 5 (.int .i64 ((a2 : Int) + 1))).set 6 (.int .i64 ((lo : Int) + 1))).set 7 (.int .i64 ((hi : Int) + 1))))
        have kz : Blk Wf (w.heap.size + 1 + 1) nilP8 65 := by rw [hWf]; exact (((HZ.out.other (p := ⟨w.heap.size, 5, none⟩) (by simp; omega) (.int .i64 ((a2 : Int) + 1))).other (p := ⟨w.heap.size, 6, none⟩) (by simp; omega) (.int .i64 ((lo : Int) + 1))).other (p := ⟨w.heap.size, 7, none⟩) (by simp; omega) (.int .i64 ((hi : Int) + 1)))
        have ll : Below w.heap.size w Wf := by rw [hWf]; exact (((LO.out.setCell (p := ⟨w.heap.size, 5, none⟩) (Nat.le_refl _) (.int .i64 ((a2 : Int) + 1))).setCell (p := ⟨w.heap.size, 6, none⟩) (Nat.le_refl _) (.int .i64 ((lo : Int) + 1))).setCell (p := ⟨w.heap.size, 7, none⟩) (Nat.le_refl _) (.int .i64 ((hi : Int) + 1))).drew
        rw [← hWf]
        clear hWf c0 c1 c2 c3 c4 c5 c6 c7 lc e0 e1 el f0 f1 f2 f3 f4 f5 f6 f7 lf z0 z1 z2 z3 z4 z5 z6 z7 y0 y1 y2 y3 y4 y5 y6 y7
        obtain ⟨c0, c1, c2, c3, c4, c5, c6, c7, lc⟩ := pc_cells kb
        obtain ⟨f0, f1, f2, f3, f4, f5, f6, f7, lf⟩ := zp_cells kz
        obtain ⟨z0, z1, z2, z3, z4, z5, z6, z7⟩ := z8 kz
        have k8 := kz.set8 (.slice ob m cb) (.slice ol q cl) (.int .i64 (2)) (.int .i64 (0)) (.int .i64 ((a1 : Int))) (.int .i64 ((a2 : Int) + 1)) (.int .i64 ((lo : Int) + 1)) (.int .i64 ((hi : Int) + 1))
        have LZ := Lib.hid (below_set8 (b := w.heap.size + 1 + 1) ll (by omega) (.slice ob m cb) (.slice ol q cl) (.int .i64 (2)) (.int .i64 (0)) (.int .i64 ((a1 : Int))) (.int .i64 ((a2 : Int) + 1)) (.int .i64 ((lo : Int) + 1)) (.int .i64 ((hi : Int) + 1)))
        obtain ⟨r0, r1, r2, r3, r4, r5, r6, r7, -⟩ := pc_cells k8
        have HR := Lib.hid (And.intro r0 (And.intro r1 (And.intro r2 (And.intro r3 (And.intro r4 (And.intro r5 (And.intro r6 r7)))))))
        clear r0 r1 r2 r3 r4 r5 r6 r7 kb kz ll k8
        go_wp2
        obtain ⟨r0, r1, r2, r3, r4, r5, r6, r7⟩ := HR.out
        exact bodyPost_ret (v := .tuple #[.agg (PC ob m cb ol q cl (2) 0 ((a1 : Int)) ((a2 : Int) + 1) ((lo : Int) + 1) ((hi : Int) + 1)), .int .i64 0]) (by simp [results, Try.results36, go_sem, r0, r1, r2, r3, r4, r5, r6, r7]) rfl ⟨by simp [pgo], LZ.out⟩
    · obtain ⟨y0, y1, y2, y3, y4, y5, y6, y7⟩ := z8 HB.out
      have hA : a1 ≤ 100 := by have := HOK.out.b1 (Nat.le_refl 1); simp only at this; omega
      have hAR : a1 ≤ (keysB bs).length := by have := HOK.out.b1 (Nat.le_refl 1); rw [keysB_len]; exact this
      have hRL : (keysB bs).length ≤ 100 := by rw [keysB_len]; exact hbs
      have hsk : sk (ge key) (keysB bs) a1 = a1 + far := by rw [HFAR.out]; unfold cfar; rw [csOf_row1 rfl]; unfold sk; rw [List.drop_zero, Nat.zero_add]
      have hskl : a1 + far ≤ 100 := by rw [← hsk]; exact Nat.le_trans (sk_le hAR) hRL
      have HRW := Lib.hid (fun W (g : Below w.heap.size w W) => prowA (d := 1) (a0 := 0) (a2 := (a2 : Int)) (lo := (lo : Int)) (hi := (hi : Int)) (HT.out.later g) hbs (a1 : Int))
      have HSK := Lib.hid (fun v W (hs : Seg .u64 W v (keysB bs)) => eSeek_any v (keysB bs) W hs a1 hAR key)
      rw [hsk] at HSK
      obtain ⟨R, hR⟩ : ∃ R, R = (keysB bs) := ⟨_, rfl⟩
      rw [← hR] at HRW HSK
      obtain ⟨TO, hTO⟩ : ∃ TO, TO = a1 + far := ⟨_, rfl⟩
      rw [← hTO] at HSK hskl
      obtain ⟨N, hN⟩ : ∃ N, N = 1 + far := ⟨_, rfl⟩
      have hsu1 : IntKind.i64.wrap (1 + (TO : Int)) = 1 + (TO : Int) := by rw [IntKind.wrap_i64]; omega
      have hsub : IntKind.i64.wrap (IntKind.i64.wrap (1 + (TO : Int)) - (a1 : Int)) = (N : Int) := by rw [hsu1, IntKind.wrap_i64]; omega
      have hNl : N ≤ 101 := by omega
      obtain ⟨LG, hLG⟩ : ∃ LG, LG = Nat.log2 N := ⟨_, rfl⟩
      have hLGl : LG ≤ 100 := by rw [hLG]; exact Nat.le_of_lt_succ (by have := Nat.log2_lt (n := N) (k := 101) (by omega); exact this.2 (Nat.lt_of_le_of_lt hNl (by decide)))
      have HLG := Lib.hid (fun W => eLog_any (N : Int) (by omega) (by omega) W)
      rw [Int.toNat_natCast, ← hLG] at HLG
      have HTO := Lib.hid hTO
      have HN := Lib.hid hN
      have HGG := Lib.hid hLG
      have HCL := Lib.hid (fun W (g : Below w1.heap.size w1 W) => show ((W.cell? ⟨w.heap.size, 0, none⟩ = some (.slice ob m cb) ∧ W.cell? ⟨w.heap.size, 1, none⟩ = some (.slice ol q cl) ∧ W.cell? ⟨w.heap.size, 2, none⟩ = some (.int .i64 1) ∧ W.cell? ⟨w.heap.size, 3, none⟩ = some (.int .i64 0) ∧ W.cell? ⟨w.heap.size, 4, none⟩ = some (.int .i64 (a1 : Int)) ∧ W.cell? ⟨w.heap.size, 5, none⟩ = some (.int .i64 (a2 : Int)) ∧ W.cell? ⟨w.heap.size, 6, none⟩ = some (.int .i64 (lo : Int)) ∧ W.cell? ⟨w.heap.size, 7, none⟩ = some (.int .i64 (hi : Int)) ∧ w.heap.size < W.heap.size) ∧ W.cell? ⟨w.heap.size + 1, 1, none⟩ = some (.int .u64 key)) from ⟨pc_cells (HB.out.later g), (HK.out.later g).cell 1⟩)
      clear hsk hR hTO hN hLG hAR hRL hsu1
      go_upto_region 6 with fail
      go_cut [8] (fun s8 wx => s8 = .int .i64 (TO : Int) ∧ Hid (Below w1.heap.size w1 wx))
      case first =>
        have hws : Below w1.heap.size w1 w1 := Below.refl _ _
        go_region_held3 (fun W => ((W.cell? ⟨w.heap.size, 0, none⟩ = some (.slice ob m cb) ∧ W.cell? ⟨w.heap.size, 1, none⟩ = some (.slice ol q cl) ∧ W.cell? ⟨w.heap.size, 2, none⟩ = some (.int .i64 1) ∧ W.cell? ⟨w.heap.size, 3, none⟩ = some (.int .i64 0) ∧ W.cell? ⟨w.heap.size, 4, none⟩ = some (.int .i64 (a1 : Int)) ∧ W.cell? ⟨w.heap.size, 5, none⟩ = some (.int .i64 (a2 : Int)) ∧ W.cell? ⟨w.heap.size, 6, none⟩ = some (.int .i64 (lo : Int)) ∧ W.cell? ⟨w.heap.size, 7, none⟩ = some (.int .i64 (hi : Int)) ∧ w.heap.size < W.heap.size) ∧ W.cell? ⟨w.heap.size + 1, 1, none⟩ = some (.int .u64 key)))
          (first | exact HCL.out _ hws | exact HCL.out _ hws.drew)
          (first
            | (go_at_call 78; (with_reducible refine (HRW.out _ (by first | exact below_later LO.out hws | exact below_later LO.out hws.drew)).mono ?_); rintro e w3 ⟨vR, rfl, hRO, lF⟩; have hws := (by first | exact below_later hws lF | exact below_later hws.drew lF : Below w1.heap.size w1 w3))
            | (go_at_call 77; (with_reducible refine (HSK.out _ _ (by first | exact hRO.seg | exact hRO.seg.drew)).mono ?_); rintro e w3 ⟨rfl, rfl⟩))
        all_goals
          go_wp2_with fail
          go_meet
          exact ⟨rfl, Lib.hid (by first | exact hws | exact hws.drew)⟩
      case rest =>
      obtain ⟨rfl, HWB⟩ := hcut
      obtain ⟨w2, hw2⟩ : ∃ w2, w2 = wc := ⟨_, rfl⟩
      rw [← hw2] at HWB ⊢
      have HB := Lib.hid (HB.out.later HWB.out)
      have HZ := Lib.hid (HZ.out.later HWB.out)
      have LO := Lib.hid (below_later LO.out HWB.out)
      clear hw2 HRW HSK HCL c0 c1 c2 c3 c4 c5 c6 c7 lc e0 e1 el f0 f1 f2 f3 f4 f5 f6 f7 lf z0 z1 z2 z3 z4 z5 z6 z7 y0 y1 y2 y3 y4 y5 y6 y7 HWB HK
      obtain ⟨c0, c1, c2, c3, c4, c5, c6, c7, lc⟩ := pc_cells HB.out
      obtain ⟨f0, f1, f2, f3, f4, f5, f6, f7, lf⟩ := zp_cells HZ.out
      obtain ⟨y0, y1, y2, y3, y4, y5, y6, y7⟩ := z8 HB.out
      obtain ⟨z0, z1, z2, z3, z4, z5, z6, z7⟩ := z8 HZ.out
      go_upto_region 8 with fail
      have hu1 : IntKind.i64.wrap ((lo : Int) + 1) = (lo : Int) + 1 := by rw [IntKind.wrap_i64]; omega
      have hu2 : IntKind.i64.wrap ((hi : Int) + 2) = (hi : Int) + 2 := by rw [IntKind.wrap_i64]; omega
      have hu3 : IntKind.i64.wrap (2 * (LG : Int)) = 2 * (LG : Int) := by rw [IntKind.wrap_i64]; omega
      have hu4 : IntKind.i64.wrap ((hi : Int) + 2 + 2 * (LG : Int)) = (hi : Int) + 2 + 2 * (LG : Int) := by rw [IntKind.wrap_i64]; omega
      go_region_law ((go_simp; go_at_call 79; with_reducible refine (HLG.out _).mono ?_; rintro e w' ⟨rfl, rfl⟩))
      all_goals
        go_upto_region 18 with fail
        obtain ⟨Wf, hWf⟩ : ∃ Wf, Wf = (((w2.setCell ⟨w.heap.size, 4, none⟩ (.int .i64 ((TO : Int)))).setCell ⟨w.heap.size, 6, none⟩ (.int .i64 ((lo : Int) + 1))).setCell ⟨w.heap.size, 7, none⟩ (.int .i64 ((hi : Int) + 2 + 2 * (LG : Int)))).drew := ⟨_, rfl⟩
        have kb : Blk Wf w.heap.size (PC ob m cb ol q cl (1) 0 ((TO : Int)) ((a2 : Int)) ((lo : Int) + 1) ((hi : Int) + 2 + 2 * (LG : Int))) 65 := by rw [hWf]; exact (show Blk (((w2.setCell ⟨w.heap.size, 4, none⟩ (.int .i64 ((TO : Int)))).setCell ⟨w.heap.size, 6, none⟩ (.int .i64 ((lo : Int) + 1))).setCell ⟨w.heap.size, 7, none⟩ (.int .i64 ((hi : Int) + 2 + 2 * (LG : Int)))) _ _ _ from by simpa using (((HB.out.set 4 (.int .i64 ((TO : Int)))).set 6 (.int .i64 ((lo : Int) + 1))).set 7 (.int .i64 ((hi : Int) + 2 + 2 * (LG : Int)))))
        have kz : Blk Wf (w.heap.size + 1 + 1) nilP8 65 := by rw [hWf]; exact (((HZ.out.other (p := ⟨w.heap.size, 4, none⟩) (by simp; omega) (.int .i64 ((TO : Int)))).other (p := ⟨w.heap.size, 6, none⟩) (by simp; omega) (.int .i64 ((lo : Int) + 1))).other (p := ⟨w.heap.size, 7, none⟩) (by simp; omega) (.int .i64 ((hi : Int) + 2 + 2 * (LG : Int))))
        have ll : Below w.heap.size w Wf := by rw [hWf]; exact (((LO.out.setCell (p := ⟨w.heap.size, 4, none⟩) (Nat.le_refl _) (.int .i64 ((TO : Int)))).setCell (p := ⟨w.heap.size, 6, none⟩) (Nat.le_refl _) (.int .i64 ((lo : Int) + 1))).setCell (p := ⟨w.heap.size, 7, none⟩) (Nat.le_refl _) (.int .i64 ((hi : Int) + 2 + 2 * (LG : Int)))).drew
        rw [← hWf]
        clear hWf c0 c1 c2 c3 c4 c5 c6 c7 lc f0 f1 f2 f3 f4 f5 f6 f7 lf z0 z1 z2 z3 z4 z5 z6 z7 y0 y1 y2 y3 y4 y5 y6 y7
        obtain ⟨c0, c1, c2, c3, c4, c5, c6, c7, lc⟩ := pc_cells kb
        obtain ⟨f0, f1, f2, f3, f4, f5, f6, f7, lf⟩ := zp_cells kz
        obtain ⟨z0, z1, z2, z3, z4, z5, z6, z7⟩ := z8 kz
        have k8 := kz.set8 (.slice ob m cb) (.slice ol q cl) (.int .i64 (1)) (.int .i64 (0)) (.int .i64 ((TO : Int))) (.int .i64 ((a2 : Int))) (.int .i64 ((lo : Int) + 1)) (.int .i64 ((hi : Int) + 2 + 2 * (LG : Int)))
        have LZ := Lib.hid (below_set8 (b := w.heap.size + 1 + 1) ll (by omega) (.slice ob m cb) (.slice ol q cl) (.int .i64 (1)) (.int .i64 (0)) (.int .i64 ((TO : Int))) (.int .i64 ((a2 : Int))) (.int .i64 ((lo : Int) + 1)) (.int .i64 ((hi : Int) + 2 + 2 * (LG : Int))))
        obtain ⟨r0, r1, r2, r3, r4, r5, r6, r7, -⟩ := pc_cells k8
        have HR := Lib.hid (And.intro r0 (And.intro r1 (And.intro r2 (And.intro r3 (And.intro r4 (And.intro r5 (And.intro r6 r7)))))))
        clear r0 r1 r2 r3 r4 r5 r6 r7 kb kz ll k8
        go_wp2
        obtain ⟨r0, r1, r2, r3, r4, r5, r6, r7⟩ := HR.out
        exact bodyPost_ret (v := .tuple #[.agg (PC ob m cb ol q cl (1) 0 ((TO : Int)) ((a2 : Int)) ((lo : Int) + 1) ((hi : Int) + 2 + 2 * (LG : Int))), .int .i64 0]) (by simp [results, Try.results36, go_sem, r0, r1, r2, r3, r4, r5, r6, r7]) rfl ⟨by rw [HTO.out, HGG.out, HN.out]; simp [pgo], LZ.out⟩
    · obtain ⟨y0, y1, y2, y3, y4, y5, y6, y7⟩ := z8 HB.out
      have hA : a2 ≤ 100 := by have := (HOK.out.b2 rfl).2; have h3 := r2At_len bs lv a1; simp only at this; omega
      have hAR : a2 ≤ (r2At bs lv a1).length := (HOK.out.b2 rfl).2
      have hRL : (r2At bs lv a1).length ≤ 100 := by have h3 := r2At_len bs lv a1; omega
      have hsk : sk (ge key) (r2At bs lv a1) a2 = a2 + far := by rw [HFAR.out]; unfold cfar; rw [csOf_row2 rfl]; unfold sk; rw [List.drop_zero, Nat.zero_add]
      have hskl : a2 + far ≤ 100 := by rw [← hsk]; exact Nat.le_trans (sk_le hAR) hRL
      have HRW := Lib.hid (fun W (g : Below w.heap.size w W) => prowB (d := 2) (a0 := 0) (a2 := (a2 : Int)) (lo := (lo : Int)) (hi := (hi : Int)) (HT.out.later g) hbs hls hok a1 (HOK.out.b2 rfl).1)
      have HSK := Lib.hid (fun v W (hs : Seg .u64 W v (r2At bs lv a1)) => eSeek_any v (r2At bs lv a1) W hs a2 hAR key)
      rw [hsk] at HSK
      obtain ⟨R, hR⟩ : ∃ R, R = (r2At bs lv a1) := ⟨_, rfl⟩
      rw [← hR] at HRW HSK
      obtain ⟨TO, hTO⟩ : ∃ TO, TO = a2 + far := ⟨_, rfl⟩
      rw [← hTO] at HSK hskl
      obtain ⟨N, hN⟩ : ∃ N, N = 1 + far := ⟨_, rfl⟩
      have hsu1 : IntKind.i64.wrap (1 + (TO : Int)) = 1 + (TO : Int) := by rw [IntKind.wrap_i64]; omega
      have hsub : IntKind.i64.wrap (IntKind.i64.wrap (1 + (TO : Int)) - (a2 : Int)) = (N : Int) := by rw [hsu1, IntKind.wrap_i64]; omega
      have hNl : N ≤ 101 := by omega
      obtain ⟨LG, hLG⟩ : ∃ LG, LG = Nat.log2 N := ⟨_, rfl⟩
      have hLGl : LG ≤ 100 := by rw [hLG]; exact Nat.le_of_lt_succ (by have := Nat.log2_lt (n := N) (k := 101) (by omega); exact this.2 (Nat.lt_of_le_of_lt hNl (by decide)))
      have HLG := Lib.hid (fun W => eLog_any (N : Int) (by omega) (by omega) W)
      rw [Int.toNat_natCast, ← hLG] at HLG
      have HTO := Lib.hid hTO
      have HN := Lib.hid hN
      have HGG := Lib.hid hLG
      have HCL := Lib.hid (fun W (g : Below w1.heap.size w1 W) => show ((W.cell? ⟨w.heap.size, 0, none⟩ = some (.slice ob m cb) ∧ W.cell? ⟨w.heap.size, 1, none⟩ = some (.slice ol q cl) ∧ W.cell? ⟨w.heap.size, 2, none⟩ = some (.int .i64 2) ∧ W.cell? ⟨w.heap.size, 3, none⟩ = some (.int .i64 0) ∧ W.cell? ⟨w.heap.size, 4, none⟩ = some (.int .i64 (a1 : Int)) ∧ W.cell? ⟨w.heap.size, 5, none⟩ = some (.int .i64 (a2 : Int)) ∧ W.cell? ⟨w.heap.size, 6, none⟩ = some (.int .i64 (lo : Int)) ∧ W.cell? ⟨w.heap.size, 7, none⟩ = some (.int .i64 (hi : Int)) ∧ w.heap.size < W.heap.size) ∧ W.cell? ⟨w.heap.size + 1, 1, none⟩ = some (.int .u64 key)) from ⟨pc_cells (HB.out.later g), (HK.out.later g).cell 1⟩)
      clear hsk hR hTO hN hLG hAR hRL hsu1
      go_upto_region 6 with fail
      go_cut [8] (fun s8 wx => s8 = .int .i64 (TO : Int) ∧ Hid (Below w1.heap.size w1 wx))
      case first =>
        have hws : Below w1.heap.size w1 w1 := Below.refl _ _
        go_region_held3 (fun W => ((W.cell? ⟨w.heap.size, 0, none⟩ = some (.slice ob m cb) ∧ W.cell? ⟨w.heap.size, 1, none⟩ = some (.slice ol q cl) ∧ W.cell? ⟨w.heap.size, 2, none⟩ = some (.int .i64 2) ∧ W.cell? ⟨w.heap.size, 3, none⟩ = some (.int .i64 0) ∧ W.cell? ⟨w.heap.size, 4, none⟩ = some (.int .i64 (a1 : Int)) ∧ W.cell? ⟨w.heap.size, 5, none⟩ = some (.int .i64 (a2 : Int)) ∧ W.cell? ⟨w.heap.size, 6, none⟩ = some (.int .i64 (lo : Int)) ∧ W.cell? ⟨w.heap.size, 7, none⟩ = some (.int .i64 (hi : Int)) ∧ w.heap.size < W.heap.size) ∧ W.cell? ⟨w.heap.size + 1, 1, none⟩ = some (.int .u64 key)))
          (first | exact HCL.out _ hws | exact HCL.out _ hws.drew)
          (first
            | (go_at_call 78; (with_reducible refine (HRW.out _ (by first | exact below_later LO.out hws | exact below_later LO.out hws.drew)).mono ?_); rintro e w3 ⟨vR, rfl, hRO, lF⟩; have hws := (by first | exact below_later hws lF | exact below_later hws.drew lF : Below w1.heap.size w1 w3))
            | (go_at_call 77; (with_reducible refine (HSK.out _ _ (by first | exact hRO.seg | exact hRO.seg.drew)).mono ?_); rintro e w3 ⟨rfl, rfl⟩))
        all_goals
          go_wp2_with fail
          go_meet
          exact ⟨rfl, Lib.hid (by first | exact hws | exact hws.drew)⟩
      case rest =>
      obtain ⟨rfl, HWB⟩ := hcut
      obtain ⟨w2, hw2⟩ : ∃ w2, w2 = wc := ⟨_, rfl⟩
      rw [← hw2] at HWB ⊢
      have HB := Lib.hid (HB.out.later HWB.out)
      have HZ := Lib.hid (HZ.out.later HWB.out)
      have LO := Lib.hid (below_later LO.out HWB.out)
      clear hw2 HRW HSK HCL c0 c1 c2 c3 c4 c5 c6 c7 lc e0 e1 el f0 f1 f2 f3 f4 f5 f6 f7 lf z0 z1 z2 z3 z4 z5 z6 z7 y0 y1 y2 y3 y4 y5 y6 y7 HWB HK
      obtain ⟨c0, c1, c2, c3, c4, c5, c6, c7, lc⟩ := pc_cells HB.out
      obtain ⟨f0, f1, f2, f3, f4, f5, f6, f7, lf⟩ := zp_cells HZ.out
      obtain ⟨y0, y1, y2, y3, y4, y5, y6, y7⟩ := z8 HB.out
      obtain ⟨z0, z1, z2, z3, z4, z5, z6, z7⟩ := z8 HZ.out
      go_upto_region 8 with fail
      have hu1 : IntKind.i64.wrap ((lo : Int) + 1) = (lo : Int) + 1 := by rw [IntKind.wrap_i64]; omega
      have hu2 : IntKind.i64.wrap ((hi : Int) + 2) = (hi : Int) + 2 := by rw [IntKind.wrap_i64]; omega
      have hu3 : IntKind.i64.wrap (2 * (LG : Int)) = 2 * (LG : Int) := by rw [IntKind.wrap_i64]; omega
      have hu4 : IntKind.i64.wrap ((hi : Int) + 2 + 2 * (LG : Int)) = (hi : Int) + 2 + 2 * (LG : Int) := by rw [IntKind.wrap_i64]; omega
      go_region_law ((go_simp; go_at_call 79; with_reducible refine (HLG.out _).mono ?_; rintro e w' ⟨rfl, rfl⟩))
      all_goals
        go_upto_region 18 with fail
        obtain ⟨Wf, hWf⟩ : ∃ Wf, Wf = (((w2.setCell ⟨w.heap.size, 5, none⟩ (.int .i64 ((TO : Int)))).setCell ⟨w.heap.size, 6, none⟩ (.int .i64 ((lo : Int) + 1))).setCell ⟨w.heap.size, 7, none⟩ (.int .i64 ((hi : Int) + 2 + 2 * (LG : Int)))).drew := ⟨_, rfl⟩
        have kb : Blk Wf w.heap.size (PC ob m cb ol q cl (2) 0 ((a1 : Int)) ((TO : Int)) ((lo : Int) + 1) ((hi : Int) + 2 + 2 * (LG : Int))) 65 := by rw [hWf]; exact (show Blk (((w2.setCell ⟨w.heap.size, 5, none⟩ (.int .i64 ((TO : Int)))).setCell ⟨w.heap.size, 6, none⟩ (.int .i64 ((lo : Int) + 1))).setCell ⟨w.heap.size, 7, none⟩ (.int .i64 ((hi : Int) + 2 + 2 * (LG : Int)))) _ _ _ from by simpa using (((HB.out.set 5 (.int .i64 ((TO : Int)))).set 6 (.int .i64 ((lo : Int) + 1))).set 7 (.int .i64 ((hi : Int) + 2 + 2 * (LG : Int)))))
        have kz : Blk Wf (w.heap.size + 1 + 1) nilP8 65 := by rw [hWf]; exact (((HZ.out.other (p := ⟨w.heap.size, 5, none⟩) (by simp; omega) (.int .i64 ((TO : Int)))).other (p := ⟨w.heap.size, 6, none⟩) (by simp; omega) (.int .i64 ((lo : Int) + 1))).other (p := ⟨w.heap.size, 7, none⟩) (by simp; omega) (.int .i64 ((hi : Int) + 2 + 2 * (LG : Int))))
        have ll : Below w.heap.size w Wf := by rw [hWf]; exact (((LO.out.setCell (p := ⟨w.heap.size, 5, none⟩) (Nat.le_refl _) (.int .i64 ((TO : Int)))).setCell (p := ⟨w.heap.size, 6, none⟩) (Nat.le_refl _) (.int .i64 ((lo : Int) + 1))).setCell (p := ⟨w.heap.size, 7, none⟩) (Nat.le_refl _) (.int .i64 ((hi : Int) + 2 + 2 * (LG : Int)))).drew
        rw [← hWf]
        clear hWf c0 c1 c2 c3 c4 c5 c6 c7 lc f0 f1 f2 f3 f4 f5 f6 f7 lf z0 z1 z2 z3 z4 z5 z6 z7 y0 y1 y2 y3 y4 y5 y6 y7
        obtain ⟨c0, c1, c2, c3, c4, c5, c6, c7, lc⟩ := pc_cells kb
        obtain ⟨f0, f1, f2, f3, f4, f5, f6, f7, lf⟩ := zp_cells kz
        obtain ⟨z0, z1, z2, z3, z4, z5, z6, z7⟩ := z8 kz
        have k8 := kz.set8 (.slice ob m cb) (.slice ol q cl) (.int .i64 (2)) (.int .i64 (0)) (.int .i64 ((a1 : Int))) (.int .i64 ((TO : Int))) (.int .i64 ((lo : Int) + 1)) (.int .i64 ((hi : Int) + 2 + 2 * (LG : Int)))
        have LZ := Lib.hid (below_set8 (b := w.heap.size + 1 + 1) ll (by omega) (.slice ob m cb) (.slice ol q cl) (.int .i64 (2)) (.int .i64 (0)) (.int .i64 ((a1 : Int))) (.int .i64 ((TO : Int))) (.int .i64 ((lo : Int) + 1)) (.int .i64 ((hi : Int) + 2 + 2 * (LG : Int))))
        obtain ⟨r0, r1, r2, r3, r4, r5, r6, r7, -⟩ := pc_cells k8
        have HR := Lib.hid (And.intro r0 (And.intro r1 (And.intro r2 (And.intro r3 (And.intro r4 (And.intro r5 (And.intro r6 r7)))))))
        clear r0 r1 r2 r3 r4 r5 r6 r7 kb kz ll k8
        go_wp2
        obtain ⟨r0, r1, r2, r3, r4, r5, r6, r7⟩ := HR.out
        exact bodyPost_ret (v := .tuple #[.agg (PC ob m cb ol q cl (2) 0 ((a1 : Int)) ((TO : Int)) ((lo : Int) + 1) ((hi : Int) + 2 + 2 * (LG : Int))), .int .i64 0]) (by simp [results, Try.results36, go_sem, r0, r1, r2, r3, r4, r5, r6, r7]) rfl ⟨by rw [HTO.out, HGG.out, HN.out]; simp [pgo], LZ.out⟩
  · have hne : (cc != 0) = true := by simpa using hc0
    have HC0 := Lib.hid hc0
    have kz := HZ.out.set8 (.slice ob m cb) (.slice ol q cl) (.int .i64 (D : Int)) (.int .i64 0) (.int .i64 (a1 : Int)) (.int .i64 (a2 : Int)) (.int .i64 (lo : Int)) (.int .i64 (hi : Int))
    have LZ := Lib.hid (below_set8 (b := w.heap.size + 1 + 1) LO.out (by omega) (.slice ob m cb) (.slice ol q cl) (.int .i64 (D : Int)) (.int .i64 0) (.int .i64 (a1 : Int)) (.int .i64 (a2 : Int)) (.int .i64 (lo : Int)) (.int .i64 (hi : Int)))
    obtain ⟨r0, r1, r2, r3, r4, r5, r6, r7, -⟩ := pc_cells kz
    have HR := Lib.hid (And.intro r0 (And.intro r1 (And.intro r2 (And.intro r3 (And.intro r4 (And.intro r5 (And.intro r6 r7)))))))
    clear r0 r1 r2 r3 r4 r5 r6 r7 kz hc0
    go_wp2
    obtain ⟨r0, r1, r2, r3, r4, r5, r6, r7⟩ := HR.out
    exact bodyPost_ret (v := .tuple #[PV8 ob m cb ol q cl ⟨D, a1, a2, lo, hi⟩, .int .i64 cc]) (by simp [results, Try.results36, go_sem, r0, r1, r2, r3, r4, r5, r6, r7]) rfl ⟨rfl, LZ.out⟩
end
end Go.Proofs.Ytjfnhjmdgfkgnaa


/- A cursor's move is the place's move. -/
namespace Go.Proofs.Kit
open Go.RowKit
theorem cfar_le (key : Int) (X : Cs) : cfar key X ≤ X.row.length := by unfold cfar; exact sk_le (Nat.zero_le _)
theorem go_is {bs : List Br} {lv : List Int} {p : PS} {k key : Int} {s q : Nat} (hp : Pok bs lv p) (hl : lv.length ≤ 100) (hb : bs.length ≤ 100) (hc : cerr k (csOf bs lv p s) = 0) (hq : Lk8 k key (csOf bs lv p s) q) (h1 : p.lo ≤ s) (h2 : s ≤ p.hi) :
    ∃ s', cgo bs lv k key q (csOf bs lv p s) = csOf bs lv (pgo p k (cfar key (csOf bs lv p s))) s' ∧ Pok bs lv (pgo p k (cfar key (csOf bs lv p s))) ∧ (pgo p k (cfar key (csOf bs lv p s))).lo ≤ s' ∧ s' ≤ (pgo p k (cfar key (csOf bs lv p s))).hi ∧
      (pgo p k (cfar key (csOf bs lv p s))).lo ≤ p.lo + 1 ∧ (pgo p k (cfar key (csOf bs lv p s))).hi ≤ p.hi + 300 := by
  obtain ⟨far, hfar⟩ : ∃ far, far = cfar key (csOf bs lv p s) := ⟨_, rfl⟩
  have hfl : far ≤ (csOf bs lv p s).row.length := by rw [hfar]; exact cfar_le _ _
  unfold Lk8 at hq
  rw [← hfar] at hq ⊢
  have hlg : far ≤ 100 → Nat.log2 (1 + far) ≤ 100 := fun h => Nat.le_of_lt_succ ((Nat.log2_lt (n := 1 + far) (k := 101) (by omega)).2 (Nat.lt_of_le_of_lt (show 1 + far ≤ 101 by omega) (by decide)))
  have hcd : (csOf bs lv p s).d = p.D := rfl
  have hx := hc
  unfold cerr at hx
  rw [hcd] at hx
  have hk1 : ¬ (k < 1 ∨ 4 < k) := fun e => by rw [if_pos e] at hx; cases hx
  rw [if_neg hk1] at hx
  have hk2 : ¬ ((k = 1 ∧ p.D = 2) ∨ (k ≠ 1 ∧ p.D = 0)) := fun e => by rw [if_pos e] at hx; cases hx
  rw [if_neg hk2] at hx
  have hk3 : ¬ (k ≠ 2 ∧ 0 < p.D ∧ (csOf bs lv p s).row = []) := fun e => by rw [if_pos e] at hx; cases hx
  have hd := hp.d2
  have hcg : cgo bs lv k key q (csOf bs lv p s) = if k = 1 then copen bs lv (csOf bs lv p s) else if k = 2 then cup (csOf bs lv p s) else if k = 3 then (csOf bs lv p s).on 1 1 else (csOf bs lv p s).on far q := by unfold cgo; rw [hfar]
  clear hfar hx hc
  obtain ⟨D, a1, a2, lo, hi⟩ := p
  obtain ⟨-, b1, b2⟩ := hp
  simp only at b1 b2 hd h1 h2 hcd hk2 hk3
  have hr2 := r2At_len bs lv a1
  have hks : (k = 1 ∧ D = 0) ∨ (k = 1 ∧ D = 1) ∨ (k = 2 ∧ D = 1) ∨ (k = 2 ∧ D = 2) ∨ (k = 3 ∧ D = 1) ∨ (k = 3 ∧ D = 2) ∨ (k = 4 ∧ D = 1) ∨ (k = 4 ∧ D = 2) := by omega
  have row1 : D = 1 → (csOf bs lv ⟨D, a1, a2, lo, hi⟩ s).row = (keysB bs).drop a1 := fun h => csOf_row1 h
  have row2 : D = 2 → (csOf bs lv ⟨D, a1, a2, lo, hi⟩ s).row = (r2At bs lv a1).drop a2 := fun h => csOf_row2 h
  have lt1 : D = 1 → k ≠ 2 → a1 < bs.length := fun h h' => by
    have := b1 (by omega)
    rcases Nat.lt_or_ge a1 bs.length with h3 | h3
    · exact h3
    · exact absurd ⟨h', by omega, by rw [row1 h]; exact List.drop_eq_nil_of_le (by rw [keysB_len]; exact h3)⟩ hk3
  have lt2 : D = 2 → k ≠ 2 → a2 < (r2At bs lv a1).length := fun h h' => by
    rcases Nat.lt_or_ge a2 (r2At bs lv a1).length with h3 | h3
    · exact h3
    · exact absurd ⟨h', by omega, by rw [row2 h]; exact List.drop_eq_nil_of_le h3⟩ hk3
  rcases hks with ⟨rfl, rfl⟩ | ⟨rfl, rfl⟩ | ⟨rfl, rfl⟩ | ⟨rfl, rfl⟩ | ⟨rfl, rfl⟩ | ⟨rfl, rfl⟩ | ⟨rfl, rfl⟩ | ⟨rfl, rfl⟩
  · exact ⟨s + 1, hcg.trans (by simp [copen, csOf, pgo]), ⟨by simp [pgo], fun _ => by simp [pgo], fun h => by simp [pgo] at h⟩, by (first | (simp [pgo]; done) | (simp [pgo]; omega)), by (first | (simp [pgo]; done) | (simp [pgo]; omega)), by simp [pgo], by (first | (simp [pgo]; done) | (simp [pgo]; omega))⟩
  · have hl1 := lt1 rfl (by decide)
    refine ⟨s + 1, hcg.trans ?_, ⟨by simp [pgo], fun _ => by (first | (simp [pgo]; done) | (simp [pgo]; omega)), fun _ => by simp [pgo]; exact hl1⟩, by (first | (simp [pgo]; done) | (simp [pgo]; omega)), by (first | (simp [pgo]; done) | (simp [pgo]; omega)), by simp [pgo], by (first | (simp [pgo]; done) | (simp [pgo]; omega))⟩
    have e1 : bs.length - (bs.length - a1) = a1 := by omega
    simp [copen, csOf, pgo, brAt, r2At, keysB_len, e1]
  · exact ⟨s, hcg.trans (by simp [cup, csOf, pgo]), ⟨by simp [pgo], fun h => by simp [pgo] at h, fun h => by simp [pgo] at h⟩, by (first | (simp [pgo]; done) | (simp [pgo]; omega)), by (first | (simp [pgo]; done) | (simp [pgo]; omega)), by simp [pgo], by simp [pgo]⟩
  · exact ⟨s, hcg.trans (by simp [cup, csOf, pgo]), ⟨by simp [pgo], fun _ => by simp [pgo]; exact b1 (by omega), fun h => by simp [pgo] at h⟩, by (first | (simp [pgo]; done) | (simp [pgo]; omega)), by (first | (simp [pgo]; done) | (simp [pgo]; omega)), by simp [pgo], by simp [pgo]⟩
  · have hl1 := lt1 rfl (by decide)
    exact ⟨s + 1, hcg.trans (by simp [Cs.on, csOf, pgo]), ⟨by simp [pgo], fun _ => by (first | (simp [pgo]; done) | (simp [pgo]; omega)), fun h => by simp [pgo] at h⟩, by (first | (simp [pgo]; done) | (simp [pgo]; omega)), by (first | (simp [pgo]; done) | (simp [pgo]; omega)), by simp [pgo], by (first | (simp [pgo]; done) | (simp [pgo]; omega))⟩
  · have hl2 := lt2 rfl (by decide)
    exact ⟨s + 1, hcg.trans (by simp [Cs.on, csOf, pgo]), ⟨by simp [pgo], fun _ => by simp [pgo]; exact b1 (by omega), fun _ => by simp [pgo]; exact ⟨(b2 rfl).1, by omega⟩⟩, by (first | (simp [pgo]; done) | (simp [pgo]; omega)), by (first | (simp [pgo]; done) | (simp [pgo]; omega)), by simp [pgo], by (first | (simp [pgo]; done) | (simp [pgo]; omega))⟩
  · have hl1 := b1 (by decide)
    rw [row1 rfl, List.length_drop, keysB_len] at hfl
    have hlg := hlg (by omega)
    have hq := hq rfl
    exact ⟨s + q, hcg.trans (by simp [Cs.on, csOf, pgo]), ⟨by simp [pgo], fun _ => by (first | (simp [pgo]; done) | (simp [pgo]; omega)), fun h => by simp [pgo] at h⟩, by (first | (simp [pgo]; done) | (simp [pgo]; omega)), by (first | (simp [pgo]; done) | (simp [pgo]; omega)), by simp [pgo], by (first | (simp [pgo]; done) | (simp [pgo]; omega))⟩
  · have hl2 := b2 rfl
    rw [row2 rfl, List.length_drop] at hfl
    have hlg := hlg (by omega)
    have hq := hq rfl
    exact ⟨s + q, hcg.trans (by simp [Cs.on, csOf, pgo]), ⟨by simp [pgo], fun _ => by simp [pgo]; exact b1 (by omega), fun _ => by simp [pgo]; exact ⟨hl2.1, by omega⟩⟩, by (first | (simp [pgo]; done) | (simp [pgo]; omega)), by (first | (simp [pgo]; done) | (simp [pgo]; omega)), by simp [pgo], by (first | (simp [pgo]; done) | (simp [pgo]; omega))⟩
end Go.Proofs.Kit


/- CursorGoes: its walk. -/
namespace Go.Proofs.Ytjfnhjmdgfkgnaa
open Go.RowKit Go.Proofs.Kit Go.Shelf
theorem own_ofG {o : Option Addr} {n c b : Nat} (h : (Value.slice o n c).ownBlock = some b) : ∃ a, o = some a ∧ a.block = b := by
  cases o with
  | none => simp [Value.ownBlock] at h
  | some a => exact ⟨a, rfl, by simpa [Value.ownBlock] using h⟩
theorem But.segRG {r : Nat} {w w' : World} {o : Option Addr} {n c : Nat} {l : List Br} (h : But r w w') (hs : SegR w (.slice o n c) l) (hr : ∀ a, o = some a → a.block ≠ r) : SegR w' (.slice o n c) l := by
  refine ⟨hs.1, hs.2.imp id ?_⟩
  rintro ⟨b, f, cap, e, h1, h2, h3, h4⟩
  have hB : b ≠ r := by injection e with e _ _; exact hr _ e
  have hc : ∀ i, w'.cell? ⟨b, i, none⟩ = w.cell? ⟨b, i, none⟩ := fun i => World.cell?_of_block (w := w) (h.same b hB h3)
  exact ⟨b, f, cap, e, h1, h2, Nat.lt_of_lt_of_le h3 h.size, fun i hi => ⟨(hc _).trans (h4 i hi).1, (hc _).trans (h4 i hi).2.1, (hc _).trans (h4 i hi).2.2⟩⟩
theorem Cur.butG {lo r r' : Nat} {w w' : World} {bs : List Br} {lv : List Int} {X : Cs} (h : Cur lo r w bs lv X) (hb : But r' w w') (hne : r ≠ r') (hn : r' < lo ∨ r ≤ r') : Cur lo r w' bs lv X := by
  obtain ⟨ob, m, cb, ol, q, cl, ok, nk, ck, o0, n0, c0, o1, n1, c1, hk, h⟩ := h
  have hi : ∀ {o : Option Addr}, In8 lo r o → ∀ a, o = some a → a.block ≠ r' := fun hI a ha => by
    have := hI a ha
    omega
  have hv : ∀ {o : Option Addr} {n c : Nat}, In8 lo r o → ∀ b, (Value.slice o n c).ownBlock = some b → b ≠ r' := fun hI b hb => by
    obtain ⟨a, ha, rfl⟩ := own_ofG hb
    exact hi hI a ha
  exact ⟨ob, m, cb, ol, q, cl, ok, nk, ck, o0, n0, c0, o1, n1, c1, hb.blk hk hne,
    { h with sB := But.segRG hb h.sB (hi h.iB), sL := hb.seg h.sL (hv h.iL), sK := hb.seg h.sK (hv h.iK), s0 := hb.seg h.s0 (hv h.i0), s1 := hb.seg h.s1 (hv h.i1) }⟩
theorem but_set (w : World) (g i : Nat) (u : Value) : But g w (w.setCell ⟨g, i, none⟩ u) := (But.refl g w).set i u
theorem but_set8 (w : World) (b : Nat) (u0 u1 u2 u3 u4 u5 u6 u7 : Value) : But b w ((((((((w.setCell ⟨b, 0, none⟩ u0).setCell ⟨b, 1, none⟩ u1).setCell ⟨b, 2, none⟩ u2).setCell ⟨b, 3, none⟩ u3).setCell ⟨b, 4, none⟩ u4).setCell ⟨b, 5, none⟩ u5).setCell ⟨b, 6, none⟩ u6).setCell ⟨b, 7, none⟩ u7) :=
  ((((((((But.refl b w).set 0 u0).set 1 u1).set 2 u2).set 3 u3).set 4 u4).set 5 u5).set 6 u6).set 7 u7
/-- Where both stand: the cursor, the place in its box, the place's trie. -/
structure G9 (lo r bP T8 : Nat) (w0 : World) (o5 : Option Addr) (m5 c5 : Nat) (o6 : Option Addr) (q6 c6 : Nat) (bs : List Br) (lv : List Int) (p : PS) (s : Nat) (W : World) : Prop where
  cur : Cur lo r W bs lv (csOf bs lv p s)
  k : Blk W T8 (PC o5 m5 c5 o6 q6 c6 (p.D : Int) 0 (p.a1 : Int) (p.a2 : Int) (p.lo : Int) (p.hi : Int)) 65
  b : OwnR 68 bP W (.slice o5 m5 c5) bs
  l : Owns .u64 32 bP W (.slice o6 q6 c6) lv
  low : Below w0.heap.size w0 W
section
variable {lo r bP T8 : Nat} {w0 : World} {o5 : Option Addr} {m5 c5 : Nat} {o6 : Option Addr} {q6 c6 : Nat} {bs : List Br} {lv : List Int} {p p' : PS} {s s' : Nat} {W W' : World}
theorem G9.later (h : G9 lo r bP T8 w0 o5 m5 c5 o6 q6 c6 bs lv p s W) (g : Below W.heap.size W W') : G9 lo r bP T8 w0 o5 m5 c5 o6 q6 c6 bs lv p s W' := ⟨h.cur.later g, h.k.later g, h.b.later g, h.l.later g, below_later h.low g⟩
theorem G9.t8 (h : G9 lo r bP T8 w0 o5 m5 c5 o6 q6 c6 bs lv p s W) : _root_.Go.Proofs.Ytjfnhjmdgfkgnaa.T8 o5 m5 c5 o6 q6 c6 bs lv W := ⟨h.b.seg, h.l.seg⟩
/-- A cell below the cursor's is written. -/
theorem G9.under (h : G9 lo r bP T8 w0 o5 m5 c5 o6 q6 c6 bs lv p s W) {g : Nat} (hg : g < lo) (hr : lo ≤ r) (hb : r < bP) (hT : bP ≤ T8) (h0 : w0.heap.size ≤ g) (i : Nat) (u : Value) : G9 lo r bP T8 w0 o5 m5 c5 o6 q6 c6 bs lv p s (W.setCell ⟨g, i, none⟩ u) :=
  ⟨h.cur.butG (but_set W g i u) (by omega) (.inl hg), h.k.other (p := ⟨g, i, none⟩) (by simp; omega) u, h.b.oth (fun e => by have := (h.b.lt g e).1; omega) i u, h.l.oth (fun e => by have := (h.l.lt g e).1; omega) i u, h.low.setCell (p := ⟨g, i, none⟩) h0 u⟩
/-- The cursor moves. -/
theorem G9.mv (h : G9 lo r bP T8 w0 o5 m5 c5 o6 q6 c6 bs lv p s W) {X : Cs} (hB : But r W W') (hC : Cur lo r W' bs lv X) (hr : w0.heap.size ≤ r) (hb : r < bP) (hT : bP ≤ T8) :
    Cur lo r W' bs lv X ∧ Blk W' T8 (PC o5 m5 c5 o6 q6 c6 (p.D : Int) 0 (p.a1 : Int) (p.a2 : Int) (p.lo : Int) (p.hi : Int)) 65 ∧ OwnR 68 bP W' (.slice o5 m5 c5) bs ∧ Owns .u64 32 bP W' (.slice o6 q6 c6) lv ∧ Below w0.heap.size w0 W' :=
  ⟨hC, hB.blk h.k (by omega), h.b.same (fun g hg => hB.same g (by have := (h.b.lt g hg).1; omega) (h.b.lt g hg).2), hB.own h.l hb, h.low.trans (hB.below hr h.low.size)⟩
/-- The place is written over. -/
theorem G9.put (hC : Cur lo r W bs lv (csOf bs lv p' s')) {x0 x1 x2 x3 x4 x5 x6 x7 : Value} (hk : Blk W T8 #[x0, x1, x2, x3, x4, x5, x6, x7] 65) (hb : OwnR 68 bP W (.slice o5 m5 c5) bs) (hl : Owns .u64 32 bP W (.slice o6 q6 c6) lv) (hw : Below w0.heap.size w0 W) (hr : r < bP) (hT : bP ≤ T8) (h0 : w0.heap.size ≤ T8) :
    G9 lo r bP T8 w0 o5 m5 c5 o6 q6 c6 bs lv p' s' ((((((((W.setCell ⟨T8, 0, none⟩ (.slice o5 m5 c5)).setCell ⟨T8, 1, none⟩ (.slice o6 q6 c6)).setCell ⟨T8, 2, none⟩ (.int .i64 (p'.D : Int))).setCell ⟨T8, 3, none⟩ (.int .i64 0)).setCell ⟨T8, 4, none⟩ (.int .i64 (p'.a1 : Int))).setCell ⟨T8, 5, none⟩ (.int .i64 (p'.a2 : Int))).setCell ⟨T8, 6, none⟩ (.int .i64 (p'.lo : Int))).setCell ⟨T8, 7, none⟩ (.int .i64 (p'.hi : Int))) := by
  have hB := but_set8 W T8 (.slice o5 m5 c5) (.slice o6 q6 c6) (.int .i64 (p'.D : Int)) (.int .i64 0) (.int .i64 (p'.a1 : Int)) (.int .i64 (p'.a2 : Int)) (.int .i64 (p'.lo : Int)) (.int .i64 (p'.hi : Int))
  have nb := hb.ne_blk hk (by decide)
  have nl := hl.ne_blk hk (by decide)
  exact ⟨hC.butG hB (by omega) (.inr (by omega)), hk.set8 _ _ _ _ _ _ _ _, hb.same (fun g hg => hB.same g (fun e => nb (e ▸ hg)) (hb.lt g hg).2), hl.same (fun g hg => hB.same g (fun e => nl (e ▸ hg)) (hl.lt g hg).2), hw.trans (hB.below h0 hw.size)⟩
end
theorem owns_blk {k : IntKind} {t : TypeId} {B g n c : Nat} {w : World} {l : List Int} (h : Owns k t B w (.slice (some ⟨g, 0, none⟩) n c) l) : ∃ cur, Blk w g cur t := by
  rcases h.2 with ⟨e, _⟩ | ⟨g', cap, cur, e, hg, hb, _⟩
  · cases e
  · injection e with e1 _ _
    injection e1 with e1
    injection e1 with e1 _ _
    subst e1
    exact ⟨cur, hb⟩
/-- A row of branches whose keys are numbers, whatever they are. -/
def RB (b1 lo : Nat) (o1 : Option Addr) (m1 y1 : Nat) (w : World) : Prop :=
  ∀ i, i < m1 → ∃ g cur, o1 = some ⟨g, 0, none⟩ ∧ m1 ≤ y1 ∧ y1 ≤ 9223372036854775807 ∧ b1 ≤ g ∧ g < lo ∧ Blk w g cur 68 ∧ ∀ j, j < m1 → ∃ k, cur[j * 3]? = some (.int .u64 k)
theorem rb_of {b1 lo : Nat} {o1 : Option Addr} {m1 y1 : Nat} {w : World} {bs : List Br} (h : OwnR 68 b1 w (.slice o1 m1 y1) bs) (hm : bs.length = m1) (hl : ∀ g, (Value.slice o1 m1 y1).ownBlock = some g → g < lo) : RB b1 lo o1 m1 y1 w := by
  intro i hi
  obtain ⟨g, cap, cur, e, h1, h2, h3, h4, h5, h6⟩ := h.blk (by omega)
  have hlg := hl g (by rw [e]; rfl)
  injection e with e1 e2 e3
  refine ⟨g, cur, e1, by omega, by omega, h4, hlg, h5, fun j hj => ?_⟩
  have hjb : j < bs.length := by omega
  have hf : (flat3 bs)[j * 3]? = some (.int .u64 bs[j].1) := by
    have : ∀ (l : List Br) (j : Nat) (h : j < l.length), (flat3 l)[j * 3]? = some (.int .u64 l[j].1) := by
      intro l
      induction l with
      | nil => intro j h; simp at h
      | cons x t ih =>
        intro j h
        cases j with
        | zero => rfl
        | succ j =>
          have := ih j (by simpa using h)
          rw [show (j + 1) * 3 = j * 3 + 1 + 1 + 1 by omega]
          simpa [flat3] using this
    exact this bs j hjb
  refine ⟨bs[j].1, ?_⟩
  rw [← hf, ← h6, List.getElem?_take_of_lt (by omega)]
  simp
theorem RB.later {b1 lo : Nat} {o1 : Option Addr} {m1 y1 : Nat} {w w' : World} (h : RB b1 lo o1 m1 y1 w) (g : Below w.heap.size w w') : RB b1 lo o1 m1 y1 w' := fun i hi => by
  obtain ⟨b, cur, h1, h2, h3, h4, h5, h6, h7⟩ := h i hi
  exact ⟨b, cur, h1, h2, h3, h4, h5, h6.later g, h7⟩
theorem RB.store {b1 lo g y1 m1 : Nat} {w : World} (h : RB b1 lo (some ⟨g, 0, none⟩) m1 y1 w) (j : Nat) (x : Int) : RB b1 lo (some ⟨g, 0, none⟩) m1 y1 (w.setCell ⟨g, j, none⟩ (.int .u64 x)) := fun i hi => by
  obtain ⟨b, cur, h1, h2, h3, h4, h5, h6, h7⟩ := h i hi
  injection h1 with h1
  injection h1 with h1 _ _
  subst h1
  refine ⟨g, _, rfl, h2, h3, h4, h5, h6.set j (.int .u64 x), fun j' hj' => ?_⟩
  obtain ⟨k, hk⟩ := h7 j' hj'
  by_cases e : j = j' * 3
  · subst e
    have hlt : j' * 3 < cur.size := by
      rcases Nat.lt_or_ge (j' * 3) cur.size with h | h
      · exact h
      · rw [Array.getElem?_eq_none h] at hk; cases hk
    exact ⟨x, by simp [hlt]⟩
  · exact ⟨k, by rw [Array.getElem?_setIfInBounds_ne e]; exact hk⟩
end Go.Proofs.Ytjfnhjmdgfkgnaa


/- CursorGoes: its walk. -/
namespace Go.Proofs.Ytjfnhjmdgfkgnaa
open Go.RowKit Go.Proofs.Kit Go.Shelf
set_option maxRecDepth 100000 in
set_option maxHeartbeats 16000000 in
theorem goes_true (ob : Option Addr) (m cb : Nat) (ol : Option Addr) (q cl : Nat) (bs : List Br) (lv : List Int) (om : Option Addr) (n cm : Nat) (ms : List Mv) (w : World)
    (hm : bs.length = m) (hmc : m ≤ cb) (hcb : cb ≤ 9223372036854775807) (ab : ArgR w ob cb bs) (hq : lv.length = q) (hqc : q ≤ cl) (hcl : cl ≤ 9223372036854775807) (al : ArgI .u64 w ol cl lv) (hu : U64s (keysB bs)) (hl : U64s lv)
    (hn : ms.length = n) (hnc : n ≤ cm) (hcm : cm ≤ 9223372036854775807) (am : ArgM w om cm ms) (hk : ∀ x ∈ ms, 0 ≤ x.2 ∧ x.2 < 18446744073709551616) :
    Calls Try.prog 6 #[.agg #[.slice ob m cb, .slice ol q cl], .slice om n cm] w fun e w' => e = .returned (.bool true) ∧ Below w.heap.size w w' := by
  have HOWN := Lib.hid (fun W (g : Below w.heap.size w W) => own8_any ob m cb ol q cl bs lv W hm hmc hcb (ab.later g) hq hqc hcl (al.later g))
  have hub : U64s (keysB (bs.take 40)) := fun x hx => hu x (by unfold keysB at hx ⊢; rw [List.map_take] at hx; exact List.mem_of_mem_take hx)
  have hul : U64s (lv.take 80) := fun x hx => hl x (List.mem_of_mem_take hx)
  have hb40 : (bs.take 40).length ≤ 40 := by simp; omega
  have hl80 : (lv.take 80).length ≤ 80 := by simp; omega
  obtain ⟨BS, hBS⟩ : ∃ BS, BS = bs.take 40 := ⟨_, rfl⟩
  obtain ⟨LS, hLS⟩ : ∃ LS, LS = lv.take 80 := ⟨_, rfl⟩
  rw [← hBS] at hub hb40 HOWN
  rw [← hLS] at hul hl80 HOWN
  have HUB := Lib.hid hub
  have HUL := Lib.hid hul
  have HB40 := Lib.hid hb40
  have HL80 := Lib.hid hl80
  have HN := Lib.hid hn
  have HAM := Lib.hid am
  have HKM := Lib.hid hk
  have hn63 : n ≤ 9223372036854775807 := by omega
  clear hm hmc hcb ab hq hqc hcl al hu hl hub hul hb40 hl80 hBS hLS hn am hk hnc hcm
  go_enter Try.func6, Try.ntmps6
  go_wp2_with fail
  refine (wakes8_true _).mono ?_
  rintro e w1 ⟨rfl, l1⟩
  have K1 := Lib.hid ((Blk.new w #[.slice ob m cb, .slice ol q cl] 25).later l1)
  have LO1 := Lib.hid (below_later (Gr.alloc w (.cells #[.slice ob m cb, .slice ol q cl] 25)).below l1)
  obtain ⟨c0, c1, lc⟩ := K1.out.two
  clear l1
  go_wp2_with fail
  refine (HOWN.out _ LO1.out).mono ?_
  rintro e w3 ⟨o1, m1, y1, o2, q2, y2, rfl, hOB, hOL, l3⟩
  have K3 := Lib.hid (K1.out.later l3)
  have LO3 := Lib.hid (below_later LO1.out l3)
  have HM1 := Lib.hid (segR_lenV hOB.seg)
  have HQ1 := Lib.hid (segU_len hOL.seg)
  obtain ⟨b1, hb1⟩ : ∃ b1, b1 = w1.heap.size := ⟨_, rfl⟩
  rw [← hb1] at hOB hOL
  have HB1 := Lib.hid (show w.heap.size ≤ b1 from by rw [hb1]; exact LO1.out.size)
  have HO := Lib.hid (And.intro hOB hOL)
  clear l3 c0 c1 lc K1 LO1 hOB hOL hb1
  go_upto_region 4 with fail
  obtain ⟨T5, hT5⟩ : ∃ T5, T5 = w3.heap.size := ⟨_, rfl⟩
  obtain ⟨W4, hW4⟩ : ∃ W4, W4 = w3.alloc (.cells #[.slice o1 m1 y1, .slice o2 q2 y2] 25) := ⟨_, rfl⟩
  have st : Below w3.heap.size w3 W4 := by rw [hW4]; exact (Gr.alloc _ _).below
  have K5 := Lib.hid (show Blk W4 T5 #[.slice o1 m1 y1, .slice o2 q2 y2] 25 from by rw [hW4, hT5]; exact Blk.new _ _ _)
  have HBL := Lib.hid (show (∀ g, (Value.slice o1 m1 y1).ownBlock = some g → g < W4.heap.size) ∧ (∀ g, (Value.slice o2 q2 y2).ownBlock = some g → g < W4.heap.size) from ⟨fun g hg => Nat.lt_of_lt_of_le (HO.out.1.lt g hg).2 st.size, fun g hg => Nat.lt_of_lt_of_le (HO.out.2.lt g hg).2 st.size⟩)
  rw [← hW4, ← hT5]
  have K4 := Lib.hid (K3.out.later st)
  have LO4 := Lib.hid (below_later LO3.out st)
  have HO := Lib.hid (And.intro (HO.out.1.later st) (HO.out.2.later st))
  obtain ⟨c0, c1, lc⟩ := K5.out.two
  clear hW4 hT5 st K3 LO3
  go_wp2_with fail
  refine (cnew_any o1 m1 y1 o2 q2 y2 BS LS W4 HO.out.1.seg HO.out.2.seg HM1.out HQ1.out (by have := HM1.out; have := HB40.out; omega) (by have := HQ1.out; have := HL80.out; omega)).mono ?_
  by_cases hok : ok7 BS LS
  case neg =>
    rintro e w5 ⟨l5, hN⟩
    rw [if_neg hok] at hN
    subst hN
    have K5 := Lib.hid (K5.out.later l5)
    have HO := Lib.hid (And.intro (HO.out.1.later l5) (HO.out.2.later l5))
    have LO := Lib.hid (below_later LO4.out l5)
    clear c0 c1 lc
    obtain ⟨c0, c1, lc⟩ := K5.out.two
    clear l5
    go_wp2_with fail
    refine (zright_any _ _ BS LS _ HO.out.1.seg HO.out.2.seg (by have := HL80.out; omega) (by have := HB40.out; omega)).mono ?_
    rw [decide_eq_false hok]
    rintro e w6 ⟨rfl, g6⟩
    have LO := Lib.hid (below_later LO.out g6.below)
    clear g6 c0 c1 lc hok
    go_wp2_with fail
    go_ret
    exact ⟨rfl, LO.out⟩
  rintro e w5 ⟨l5, hN⟩
  rw [if_pos hok] at hN
  obtain ⟨r, rfl, hr, hC⟩ := hN
  obtain ⟨lo, hlo⟩ : ∃ lo, lo = W4.heap.size := ⟨_, rfl⟩
  rw [← hlo] at hr hC HBL
  have HLO := Lib.hid (show w.heap.size ≤ lo from by rw [hlo]; exact LO4.out.size)
  have K5 := Lib.hid (K5.out.later l5)
  have K4 := Lib.hid (K4.out.later l5)
  have HO := Lib.hid (And.intro (HO.out.1.later l5) (HO.out.2.later l5))
  have LO := Lib.hid (below_later LO4.out l5)
  have HR := Lib.hid hr
  have HC := Lib.hid hC
  have HOK := Lib.hid hok
  clear c0 c1 lc hlo hr hC LO4
  obtain ⟨c0, c1, lc⟩ := K5.out.two
  clear l5
  go_wp2_with fail
  refine (zright_any _ _ BS LS _ HO.out.1.seg HO.out.2.seg (by have := HL80.out; omega) (by have := HB40.out; omega)).mono ?_
  rw [decide_eq_true hok]
  rintro e w6 ⟨rfl, g6⟩
  have K5 := Lib.hid (K5.out.later g6.below)
  have K4 := Lib.hid (K4.out.later g6.below)
  have HO := Lib.hid (And.intro (HO.out.1.later g6.below) (HO.out.2.later g6.below))
  have LO := Lib.hid (below_later LO.out g6.below)
  have HC := Lib.hid (HC.out.later g6.below)
  clear c0 c1 lc g6 hok
  obtain ⟨c0, c1, lc⟩ := K4.out.two
  go_wp2_with fail
  refine (HOWN.out _ LO.out).mono ?_
  rintro e w7 ⟨o5, m5, y5, o6, q6, y6, rfl, hOB, hOL, l7⟩
  obtain ⟨bP, hbP⟩ : ∃ bP, bP = w6.heap.size := ⟨_, rfl⟩
  rw [← hbP] at hOB hOL
  have HBP := Lib.hid (show r < bP ∧ bP ≤ w7.heap.size from ⟨by rw [hbP]; exact HC.out.lt, by rw [hbP]; exact l7.size⟩)
  have K5 := Lib.hid (K5.out.later l7)
  have HO := Lib.hid (And.intro (HO.out.1.later l7) (HO.out.2.later l7))
  have LO := Lib.hid (below_later LO.out l7)
  have HC := Lib.hid (HC.out.later l7)
  have HP := Lib.hid (And.intro hOB hOL)
  clear l7 c0 c1 lc K4 hOB hOL hbP HOWN
  go_upto_region 8 with fail
  obtain ⟨T8', hT8⟩ : ∃ T8', T8' = w7.heap.size := ⟨_, rfl⟩
  obtain ⟨W8, hW8⟩ : ∃ W8, W8 = w7.alloc (.cells (PC o5 m5 y5 o6 q6 y6 0 0 0 0 0 0) 65) := ⟨_, rfl⟩
  have st : Below w7.heap.size w7 W8 := by rw [hW8]; exact (Gr.alloc _ _).below
  have kp : Blk W8 T8' (PC o5 m5 y5 o6 q6 y6 0 0 0 0 0 0) 65 := by rw [hW8, hT8]; exact Blk.new _ _ _
  have HS := Lib.hid (show r < bP ∧ bP ≤ T8' ∧ w.heap.size ≤ T8' from ⟨HBP.out.1, by rw [hT8]; exact HBP.out.2, by rw [hT8]; exact LO.out.size⟩)
  rw [← hW8, ← hT8]
  have K5 := Lib.hid (K5.out.later st)
  have HO := Lib.hid (And.intro (HO.out.1.later st) (HO.out.2.later st))
  have HG := Lib.hid (show G9 lo r bP T8' w o5 m5 y5 o6 q6 y6 BS LS ⟨0, 0, 0, 0, 0⟩ 0 W8 from ⟨HC.out.later st, kp, HP.out.1.later st, HP.out.2.later st, below_later LO.out st⟩)
  clear hT8 hW8 st kp HC HP LO HBP
  obtain ⟨c0, c1, c2, c3, c4, c5, c6, c7, lc⟩ := pc_cells HG.out.k
  go_wp2_with fail
  refine (stands_any ⟨0, 0, 0, 0, 0⟩ 0 HG.out.cur ⟨HG.out.b.seg, HG.out.l.seg⟩ (by have := HB40.out; omega) (by have := HL80.out; omega) HOK.out ⟨by decide, fun h => absurd h (by decide), fun h => absurd h (by decide)⟩ (Nat.le_refl _) (Nat.le_refl _)).mono ?_
  rintro e w9 ⟨rfl, l9⟩
  have K5 := Lib.hid (K5.out.later l9)
  have HO := Lib.hid (And.intro (HO.out.1.later l9) (HO.out.2.later l9))
  have HG := Lib.hid (HG.out.later l9)
  clear l9 c0 c1 c2 c3 c4 c5 c6 c7 lc
  obtain ⟨c0, c1, lc⟩ := K5.out.two
  have hq63 : q2 ≤ 80 := by have := HQ1.out; have := HL80.out; omega
  have hm63 : m1 ≤ 40 := by have := HM1.out; have := HB40.out; omega
  have HRB := Lib.hid (rb_of HO.out.1 HM1.out HBL.out.1)
  have HLS := Lib.hid (show ∃ L : List Int, L.length = q2 ∧ Owns .u64 32 b1 w9 (.slice o2 q2 y2) L from ⟨LS, HQ1.out, HO.out.2⟩)
  go_upto_region 11 with fail
  clear HO
  go_loopw [54] (fun i wr => ∃ j : Nat, j ≤ q2 ∧ i = .int .i64 (j : Int) ∧ Hid (Blk wr T5 #[.slice o1 m1 y1, .slice o2 q2 y2] 25) ∧ Hid (∃ L : List Int, L.length = q2 ∧ Owns .u64 32 b1 wr (.slice o2 q2 y2) L) ∧ Hid (RB b1 lo o1 m1 y1 wr) ∧ Hid (G9 lo r bP T8' w o5 m5 y5 o6 q6 y6 BS LS ⟨0, 0, 0, 0, 0⟩ 0 wr)) (fun i _ => q2 - (intOf i).toNat)
  case atStart => exact ⟨0, Nat.zero_le _, rfl, K5, HLS, HRB, HG⟩
  case round =>
    obtain ⟨j, hj, rfl, K5, HLS, HRB, HG⟩ := hrel
    clear c0 c1 lc
    obtain ⟨c0, c1, lc⟩ := K5.out.two
    by_cases hjn : j < q2
    · obtain ⟨L, hLl, hOL⟩ := HLS.out
      have hjL : j < L.length := by omega
      obtain ⟨g, cap, e, -, -, hgB, hgl, x2, x3, -⟩ := hOL.set hjL 0
      have hgl8 := HBL.out.2 g (by rw [e]; rfl)
      injection e with e1 _ _
      subst e1
      obtain ⟨cur, hcb⟩ := owns_blk hOL
      have HST := Lib.hid (fun x => hOL.store hjL x)
      have HKS := Lib.hid (fun x => K5.out.other (p := ⟨g, j, none⟩) (by intro e; simp only at e; subst e; have h1 : Blk wr T5 _ _ := K5.out; unfold Blk at h1 hcb; rw [h1] at hcb; simp at hcb) x)
      have HRS := Lib.hid (fun (x : Int) => show RB b1 lo o1 m1 y1 (wr.setCell ⟨g, j, none⟩ (.int .u64 x)) from fun i hi => by
        obtain ⟨b, cur', h1, h2, h3, h4, h5, h6, h7⟩ := HRB.out i hi
        exact ⟨b, cur', h1, h2, h3, h4, h5, h6.other (p := ⟨g, j, none⟩) (by intro e; simp only at e; subst e; unfold Blk at h6 hcb; rw [h6] at hcb; simp at hcb) _, h7⟩)
      have HGS := Lib.hid (fun (x : Int) => HG.out.under hgl8 HR.out HS.out.1 HS.out.2.1 (by have := HB1.out; omega) j (.int .u64 x))
      have HLL := Lib.hid hLl
      obtain ⟨y, hy⟩ : ∃ y, y = L[j] := ⟨_, rfl⟩
      rw [← hy] at x2
      clear hOL hLl hjL hy hgB hcb hgl8
      go_wp2
      go_roundw
      case rel => exact ⟨j + 1, by omega, by go_num, Lib.hid (HKS.out _), Lib.hid ⟨_, by rw [List.length_set]; exact HLL.out, HST.out _⟩, Lib.hid (HRS.out _), Lib.hid (HGS.out _)⟩
      case measure => simp [intOf]; omega
    · go_upto_region 16 with fail
      clear HLS
      go_loopw [68] (fun i wz => ∃ j : Nat, j ≤ m1 ∧ i = .int .i64 (j : Int) ∧ Hid (Blk wz T5 #[.slice o1 m1 y1, .slice o2 q2 y2] 25) ∧ Hid (RB b1 lo o1 m1 y1 wz) ∧ Hid (G9 lo r bP T8' w o5 m5 y5 o6 q6 y6 BS LS ⟨0, 0, 0, 0, 0⟩ 0 wz)) (fun i _ => m1 - (intOf i).toNat)
      case atStart => exact ⟨0, Nat.zero_le _, rfl, K5, HRB, HG⟩
      case round =>
        obtain ⟨j, hj, rfl, K5, HRB, HG⟩ := hrel
        clear c0 c1 lc
        obtain ⟨c0, c1, lc⟩ := K5.out.two
        by_cases hjn : j < m1
        · obtain ⟨g, cur, e1, hmy, hy63, hgB, hgl, hcb, hks⟩ := HRB.out j hjn
          subst e1
          obtain ⟨k, hk⟩ := hks j hjn
          have x2 : wr.cell? ⟨g, j * 3, none⟩ = some (.int .u64 k) := by rw [hcb.cell]; exact hk
          have x3 := hcb.frozen (j * 3)
          have hgt := hcb.lt
          have HKS := Lib.hid (fun x => K5.out.other (p := ⟨g, j * 3, none⟩) (by intro e; simp only at e; subst e; have h1 : Blk wr T5 _ _ := K5.out; unfold Blk at h1 hcb; rw [h1] at hcb; simp at hcb) x)
          have HRS := Lib.hid (fun (x : Int) => HRB.out.store (j * 3) x)
          have HGS := Lib.hid (fun (x : Int) => HG.out.under hgl HR.out HS.out.1 HS.out.2.1 (by have := HB1.out; omega) (j * 3) (.int .u64 x))
          clear hks hk hgB hcb
          go_wp2
          go_roundw
          case rel => exact ⟨j + 1, by omega, by go_num, Lib.hid (HKS.out _), Lib.hid (HRS.out _), Lib.hid (HGS.out _)⟩
          case measure => simp [intOf]; omega
        · clear HRB c0 c1 lc
          obtain ⟨c0, c1, lc⟩ := K5.out.two
          clear K5
          obtain ⟨wS, hwS⟩ : ∃ wS, wS = wr := ⟨_, rfl⟩
          rw [← hwS] at HG ⊢
          clear hwS
          go_upto_block 4 with fail
          go_cut [83] (fun _ wx => ∃ (p : PS) (s : Nat), Hid (Pok BS LS p) ∧ Hid (p.lo ≤ s ∧ s ≤ p.hi) ∧ Hid (G9 lo r bP T8' w o5 m5 y5 o6 q6 y6 BS LS p s wx))
          case first =>
            go_wp2
            go_loopw [83] (fun i wz => ∃ (k : Nat) (p : PS) (s : Nat), k ≤ n ∧ k ≤ 30 ∧ i = .int .i64 (k : Int) ∧ Hid (Pok BS LS p) ∧ Hid (p.lo ≤ s ∧ s ≤ p.hi ∧ p.lo ≤ k ∧ p.hi ≤ 300 * k) ∧ Hid (G9 lo r bP T8' w o5 m5 y5 o6 q6 y6 BS LS p s wz)) (fun i _ => n - (intOf i).toNat)
            case atStart => exact ⟨0, ⟨0, 0, 0, 0, 0⟩, 0, Nat.zero_le _, Nat.zero_le _, rfl, Lib.hid ⟨by decide, fun h => absurd h (by decide), fun h => absurd h (by decide)⟩, Lib.hid ⟨Nat.le_refl _, Nat.le_refl _, Nat.le_refl _, Nat.le_refl _⟩, HG⟩
            case round =>
              obtain ⟨k, p, s, hkn, hk30, rfl, HPK, HPS, HG⟩ := hrel
              by_cases hlt : k < n
              · have hlow := HG.out.low
                have hki : k < ms.length := by have := HN.out; omega
                obtain ⟨a, rfl, ha⟩ : ∃ a, om = some a ∧ ∀ i (h : i < ms.length), wr.cell? (a.add (i * 2)) = some (.int .i64 ms[i].1) ∧ wr.cell? (a.add (i * 2 + 1)) = some (.int .u64 ms[i].2) := by
                  rcases HAM.out.later hlow with ⟨_, h0, _⟩ | h
                  · rw [h0] at hki; simp at hki
                  · exact h
                obtain ⟨e0, e1⟩ := ha k hki
                have hkey := HKM.out ms[k] (List.getElem_mem hki)
                obtain ⟨kd, hkd⟩ : ∃ kd, kd = ms[k].1 := ⟨_, rfl⟩
                obtain ⟨ky, hky⟩ : ∃ ky, ky = ms[k].2 := ⟨_, rfl⟩
                rw [← hkd] at e0
                rw [← hky] at e1 hkey
                rw [← Addr.add_add a (k * 2) 1] at e1
                have e2 : wr.cell? ⟨(a.add (k * 2)).block, (a.add (k * 2)).off + 1, none⟩ = some (.int .u64 ky) := e1
                have HKY := Lib.hid hkey
                have hc1 : (k : Int) < (n : Int) := by omega
                have hk0 : (0 : Int) ≤ (k : Int) := by omega
                have HLT := Lib.hid hlt
                clear ha hkey hkd hky hki hlt e1 hlow
                by_cases h30 : k = 30
                · have hc2 : ((k : Int) == 30) = true := by simp [h30]
                  have HGA := Lib.hid (HG.out.later (Gr.alloc wr (.cells #[.int .i64 kd, .int .u64 ky] 70)).below)
                  clear h30
                  go_wp2_with fail
                  go_meet
                  exact ⟨p, s, HPK, Lib.hid ⟨HPS.out.1, HPS.out.2.1⟩, HGA⟩
                have hc2 : ((k : Int) == 30) = false := by simp; omega
                have HKK := Lib.hid (show k < 30 by omega)
                clear h30 hk30
                go_upto_region 23 with fail
                obtain ⟨W1, hW1⟩ : ∃ W1, W1 = wr.alloc (.cells #[.int .i64 kd, .int .u64 ky] 70) := ⟨_, rfl⟩
                obtain ⟨TM, hTM⟩ : ∃ TM, TM = wr.heap.size := ⟨_, rfl⟩
                have hal : Below wr.heap.size wr W1 := by rw [hW1]; exact (Gr.alloc _ _).below
                have KM := Lib.hid (show Blk W1 TM #[.int .i64 kd, .int .u64 ky] 70 from by rw [hW1, hTM]; exact Blk.new _ _ _)
                have HTM := Lib.hid (show r < TM from by rw [hTM]; exact HG.out.cur.lt)
                rw [← hW1, ← hTM]
                have HG := Lib.hid (HG.out.later hal)
                clear hW1 hTM hal e0 e2
                obtain ⟨cc, hcc⟩ : ∃ cc, cc = cerr kd (csOf BS LS p s) := ⟨_, rfl⟩
                obtain ⟨p', hp'⟩ : ∃ p', p' = if cc = 0 then pgo p kd (cfar ky (csOf BS LS p s)) else p := ⟨_, rfl⟩
                have HMV := Lib.hid (fun W (g : Below W1.heap.size W1 W) => pMove_any p (w := W) ⟨(HG.out.later g).b.seg, (HG.out.later g).l.seg⟩ (by have := HB40.out; omega) (by have := HL80.out; omega) HOK.out HPK.out s kd ky (by have := HPS.out; have := HKK.out; omega) (by have := HPS.out; have := HKK.out; omega))
                rw [← hcc, ← hp'] at HMV
                have HCC := Lib.hid hcc
                have HPP := Lib.hid hp'
                clear hcc hp'
                obtain ⟨D, a1, a2, lo', hi'⟩ := p
                obtain ⟨D2, b21, b22, lo2, hi2⟩ := p'
                obtain ⟨c0, c1, c2, c3, c4, c5, c6, c7, lc⟩ := pc_cells HG.out.k
                obtain ⟨f0, f1, fl⟩ := KM.out.two
                go_wp2_with fail
                refine (HMV.out _ (Below.refl _ _)).mono ?_
                rintro e w2 ⟨rfl, l2⟩
                have HG := Lib.hid (HG.out.later l2)
                have KM := Lib.hid (KM.out.later l2)
                clear l2 c0 c1 c2 c3 c4 c5 c6 c7 lc f0 f1 fl HMV
                go_upto_region 25 with fail
                obtain ⟨W3, hW3⟩ : ∃ W3, W3 = w2.alloc (.cells (PC o5 m5 y5 o6 q6 y6 (D2 : Int) 0 (b21 : Int) (b22 : Int) (lo2 : Int) (hi2 : Int)) 65) := ⟨_, rfl⟩
                obtain ⟨TN, hTN⟩ : ∃ TN, TN = w2.heap.size := ⟨_, rfl⟩
                have hal : Below w2.heap.size w2 W3 := by rw [hW3]; exact (Gr.alloc _ _).below
                have KN := Lib.hid (show Blk W3 TN (PC o5 m5 y5 o6 q6 y6 (D2 : Int) 0 (b21 : Int) (b22 : Int) (lo2 : Int) (hi2 : Int)) 65 from by rw [hW3, hTN]; exact Blk.new _ _ _)
                have HTN := Lib.hid (show r < TN ∧ T8' < TN from ⟨by rw [hTN]; exact HG.out.cur.lt, by rw [hTN]; exact HG.out.k.lt⟩)
                rw [← hW3, ← hTN]
                have HG := Lib.hid (HG.out.later hal)
                have KM := Lib.hid (KM.out.later hal)
                clear hW3 hTN hal
                go_wp2_with fail
                refine (kSteps_any HG.out.cur).mono ?_
                rintro e w4 ⟨rfl, rfl⟩
                obtain ⟨f0, f1, fl⟩ := KM.out.two
                have hss : (csOf BS LS ⟨D, a1, a2, lo', hi'⟩ s).s = s := rfl
                rw [hss]
                clear hss
                go_wp2_with fail
                refine (kmove_any HG.out.cur (by have h1 : s ≤ hi' := HPS.out.2.1; have h2 : hi' ≤ 300 * k := HPS.out.2.2.2; have := HKK.out; show s ≤ 90000000000; omega) HUB.out HUL.out kd ky HKY.out.1 HKY.out.2).mono ?_
                rintro e w5 ⟨hBt, he, hM⟩
                rw [← HCC.out] at he hM
                subst he
                obtain ⟨s2, hC2, hPk2, h21, h22, h23, h24, h25⟩ : ∃ s2, Cur lo r w5 BS LS (csOf BS LS ⟨D2, b21, b22, lo2, hi2⟩ s2) ∧ Pok BS LS ⟨D2, b21, b22, lo2, hi2⟩ ∧ lo2 ≤ s2 ∧ s2 ≤ hi2 ∧ lo2 ≤ lo' + 1 ∧ hi2 ≤ hi' + 300 ∧ (cc ≠ 0 → s2 = s) := by
                  rcases hM with ⟨h0, qq, hq, hC⟩ | ⟨h0, hC⟩
                  · obtain ⟨s', g1, g2, g3, g4, g5, g6⟩ := go_is (s := s) HPK.out (by have := HL80.out; omega) (by have := HB40.out; omega) (by rw [← HCC.out]; exact h0) hq HPS.out.1 HPS.out.2.1
                    have e1 := HPP.out
                    rw [if_pos h0] at e1
                    rw [← e1] at g1 g2 g3 g4 g5 g6
                    exact ⟨s', by rw [← g1]; exact hC, g2, g3, g4, g5, g6, fun h => absurd h0 h⟩
                  · have e1 := HPP.out
                    rw [if_neg h0] at e1
                    injection e1 with e1 e2 e3 e4 e5
                    subst e1 e2 e3 e4 e5
                    exact ⟨s, hC, HPK.out, HPS.out.1, HPS.out.2.1, by omega, by omega, fun _ => rfl⟩
                obtain ⟨-, hk5, hb5, hl5, hw5⟩ := HG.out.mv hBt hC2 (Nat.le_trans HLO.out HR.out) HS.out.1 HS.out.2.1
                have KN := Lib.hid (hBt.blk KN.out (by have := HTN.out.1; omega))
                have HCC2 := Lib.hid hC2
                have HPK2 := Lib.hid hPk2
                have HPS2 := Lib.hid (show lo2 ≤ s2 ∧ s2 ≤ hi2 ∧ lo2 ≤ k + 1 ∧ hi2 ≤ 300 * (k + 1) from ⟨h21, h22, by have : lo' ≤ k := HPS.out.2.2.1; omega, by have : hi' ≤ 300 * k := HPS.out.2.2.2; omega⟩)
                have HSE := Lib.hid h25
                have HRW := Lib.hid (And.intro hk5 (And.intro hb5 (And.intro hl5 hw5)))
                clear hBt hM hC2 hPk2 h21 h22 h23 h24 h25 hk5 hb5 hl5 hw5 HPP HPS HPK HG KM HCC f0 f1 fl
                obtain ⟨ws, hws⟩ : ∃ ws, ws = w5 := ⟨_, rfl⟩
                go_upto_region 27 with fail
                go_cut [113] (fun s9 wx => s9 = .bool false ∧ wx = ws)
                case first =>
                  by_cases hc0 : cc = 0
                  · have hz : (cc != 0) = false := by simp [hc0]
                    clear hc0
                    go_wp2_with fail
                    go_meet
                    exact ⟨rfl, hws.symm⟩
                  · have hz : (cc != 0) = true := by simpa using hc0
                    have HSS := Lib.hid (HSE.out hc0)
                    clear hc0
                    go_wp2_with fail
                    refine (kSteps_any HCC2.out).mono ?_
                    rintro e w6 ⟨rfl, rfl⟩
                    have hs9 : (csOf BS LS ⟨D2, b21, b22, lo2, hi2⟩ s2).s = s2 := rfl
                    rw [hs9, HSS.out]
                    clear hs9
                    go_wp2_with fail
                    go_meet
                    exact ⟨rfl, hws.symm⟩
                case rest =>
                  obtain ⟨rfl, hwx⟩ := hcut
                  rw [hwx, hws]
                  clear hwx hws
                  obtain ⟨hk5, hb5, hl5, hw5⟩ := HRW.out
                  obtain ⟨c0, c1, c2, c3, c4, c5, c6, c7, lc⟩ := pc_cells KN.out
                  obtain ⟨f0, f1, f2, f3, f4, f5, f6, f7, lf⟩ := pc_cells hk5
                  obtain ⟨z0, z1, z2, z3, z4, z5, z6, z7⟩ := z8 hk5
                  have HGP := Lib.hid (G9.put HCC2.out hk5 hb5 hl5 hw5 HS.out.1 HS.out.2.1 HS.out.2.2)
                  clear hk5 hb5 hl5 hw5 HRW HCC2
                  go_upto_region 30 with fail
                  obtain ⟨w6, hw6⟩ : ∃ w6, w6 = ((((((((w5.setCell ⟨T8', 0, none⟩ (.slice o5 m5 y5)).setCell ⟨T8', 1, none⟩ (.slice o6 q6 y6)).setCell ⟨T8', 2, none⟩ (.int .i64 (D2 : Int))).setCell ⟨T8', 3, none⟩ (.int .i64 0)).setCell ⟨T8', 4, none⟩ (.int .i64 (b21 : Int))).setCell ⟨T8', 5, none⟩ (.int .i64 (b22 : Int))).setCell ⟨T8', 6, none⟩ (.int .i64 (lo2 : Int))).setCell ⟨T8', 7, none⟩ (.int .i64 (hi2 : Int))) := ⟨_, rfl⟩
                  have HG := Lib.hid (show G9 lo r bP T8' w o5 m5 y5 o6 q6 y6 BS LS ⟨D2, b21, b22, lo2, hi2⟩ s2 w6 from by rw [hw6]; exact HGP.out)
                  rw [← hw6]
                  clear hw6 HGP KN c0 c1 c2 c3 c4 c5 c6 c7 lc f0 f1 f2 f3 f4 f5 f6 f7 lf z0 z1 z2 z3 z4 z5 z6 z7
                  obtain ⟨c0, c1, c2, c3, c4, c5, c6, c7, lc⟩ := pc_cells HG.out.k
                  go_wp2_with fail
                  refine (stands_any ⟨D2, b21, b22, lo2, hi2⟩ s2 HG.out.cur ⟨HG.out.b.seg, HG.out.l.seg⟩ (by have := HB40.out; omega) (by have := HL80.out; omega) HOK.out HPK2.out HPS2.out.1 HPS2.out.2.1).mono ?_
                  rintro e w7' ⟨rfl, l7⟩
                  have HG := Lib.hid (HG.out.later l7)
                  clear l7 c0 c1 c2 c3 c4 c5 c6 c7 lc
                  go_wp2_with fail
                  refine (kPath_any HG.out.cur).mono ?_
                  rintro e w8 ⟨vp, rfl, hO, l8⟩
                  have HG7 := Lib.hid (fun W (g : Below w7'.heap.size w7' W) => HG.out.later g)
                  obtain ⟨PL, hPL⟩ : ∃ PL, PL = cpath (csOf BS LS ⟨D2, b21, b22, lo2, hi2⟩ s2) := ⟨_, rfl⟩
                  rw [← hPL] at hO
                  obtain ⟨op, xp, e1⟩ := hO.shape
                  obtain ⟨np, hnp⟩ : ∃ np, np = PL.length := ⟨_, rfl⟩
                  rw [← hnp] at e1
                  subst e1
                  have HOW := Lib.hid hO
                  have HNP := Lib.hid hnp
                  have L8 := Lib.hid l8
                  clear hPL hO hnp l8 HG
                  have hk31 : k + 1 ≤ 30 := by have := HKK.out; omega
                  have hkn1 : k + 1 ≤ n := by have := HLT.out; omega
                  by_cases hpos : 0 < np
                  · have hlt0 : 0 < PL.length := by have := HNP.out; omega
                    obtain ⟨g, cap, e, -, -, hgB, hgl, x2, x3, -⟩ := HOW.out.set hlt0 0
                    injection e with e1 _ _
                    subst e1
                    have LS8 := Lib.hid (fun u => HG7.out _ (L8.out.setCell (p := ⟨g, 0, none⟩) hgB u))
                    obtain ⟨y, hy⟩ : ∃ y, y = PL[0] := ⟨_, rfl⟩
                    rw [← hy] at x2
                    clear hy hlt0 hgB
                    clear HG7 HOW L8 HNP
                    go_wp2
                    go_roundw
                    case rel => exact ⟨k + 1, ⟨D2, b21, b22, lo2, hi2⟩, s2, hkn1, hk31, by go_num, HPK2, HPS2, Lib.hid (LS8.out _)⟩
                    case measure => simp [intOf]; omega
                  · have HG := Lib.hid (HG7.out _ L8.out)
                    clear HG7 HOW L8 HNP
                    go_wp2
                    go_roundw
                    case rel => exact ⟨k + 1, ⟨D2, b21, b22, lo2, hi2⟩, s2, hkn1, hk31, by go_num, HPK2, HPS2, HG⟩
                    case measure => simp [intOf]; omega
              · go_wp2
                go_meet
                exact ⟨p, s, HPK, Lib.hid ⟨HPS.out.1, HPS.out.2.1⟩, HG⟩
          case rest =>
            obtain ⟨p, s, HPK, HPS, HG⟩ := hcut
            obtain ⟨D, a1, a2, lo', hi'⟩ := p
            obtain ⟨c0, c1, c2, c3, c4, c5, c6, c7, lc⟩ := pc_cells HG.out.k
            go_wp2_with fail
            refine (stands_any ⟨D, a1, a2, lo', hi'⟩ s HG.out.cur ⟨HG.out.b.seg, HG.out.l.seg⟩ (by have := HB40.out; omega) (by have := HL80.out; omega) HOK.out HPK.out HPS.out.1 HPS.out.2).mono ?_
            rintro e wE ⟨rfl, lE⟩
            have HLE := Lib.hid (below_later HG.out.low lE)
            clear lE c0 c1 c2 c3 c4 c5 c6 c7 lc
            go_wp2_with fail
            go_ret
            exact ⟨rfl, HLE.out⟩
end Go.Proofs.Ytjfnhjmdgfkgnaa


/- CursorSeeks: to seek comes to where next comes, as often as needed, by few looks. -/
namespace Go.Proofs.Kit
open Go.RowKit
theorem But.segR {r : Nat} {w w' : World} {o : Option Addr} {n c : Nat} {l : List Br} (h : But r w w') (hs : SegR w (.slice o n c) l) (hr : ∀ a, o = some a → a.block ≠ r) : SegR w' (.slice o n c) l := by
  refine ⟨hs.1, hs.2.imp id ?_⟩
  rintro ⟨b, f, cap, e, h1, h2, h3, h4⟩
  have hB : b ≠ r := by injection e with e _ _; exact hr _ e
  have hc : ∀ i, w'.cell? ⟨b, i, none⟩ = w.cell? ⟨b, i, none⟩ := fun i => World.cell?_of_block (w := w) (h.same b hB h3)
  exact ⟨b, f, cap, e, h1, h2, Nat.lt_of_lt_of_le h3 h.size, fun i hi => ⟨(hc _).trans (h4 i hi).1, (hc _).trans (h4 i hi).2.1, (hc _).trans (h4 i hi).2.2⟩⟩
theorem own_of {o : Option Addr} {n c b : Nat} (h : (Value.slice o n c).ownBlock = some b) : ∃ a, o = some a ∧ a.block = b := by
  cases o with
  | none => simp [Value.ownBlock] at h
  | some a => exact ⟨a, rfl, by simpa [Value.ownBlock] using h⟩
/-- The same place, whatever the steps. -/
def eqx (X Y : Cs) : Prop := X.d = Y.d ∧ X.r0 = Y.r0 ∧ X.r1 = Y.r1
theorem eqx.row {X Y : Cs} (h : eqx X Y) : X.row = Y.row := by obtain ⟨a, b, c⟩ := h; unfold Cs.row; rw [a, b, c]
theorem eqx.err {X Y : Cs} (h : eqx X Y) (k : Int) : cerr k X = cerr k Y := by unfold cerr; rw [h.row, h.1]
theorem eqx.on {X Y : Cs} (h : eqx X Y) (p q q' : Nat) : eqx (X.on p q) (Y.on p q') := by
  obtain ⟨a, b, c⟩ := h
  unfold Cs.on eqx
  rw [a, b, c]
  split <;> simp
theorem eqx.go {X Y : Cs} (h : eqx X Y) (bs : List Br) (lv : List Int) (k key : Int) (q q' : Nat) : eqx (cgo bs lv k key q X) (cgo bs lv k key q' Y) := by
  have h0 := h
  obtain ⟨a, b, c⟩ := h
  unfold cgo
  split
  · unfold copen brAt
    rw [a, b]
    split <;> exact ⟨rfl, rfl, rfl⟩
  · split
    · unfold cup
      rw [a, b]
      split <;> exact ⟨rfl, rfl, rfl⟩
    · split
      · exact h0.on 1 1 1
      · have e : cfar key X = cfar key Y := by unfold cfar; rw [h0.row]
        rw [e]
        exact h0.on _ _ _
end Go.Proofs.Kit
namespace Go.Proofs.Ytjfnhjmdgfkgnaa
open Go.RowKit Go.Proofs.Kit Go.Shelf
theorem eqx.path {X Y : Cs} (h : eqx X Y) : cpath X = cpath Y := by obtain ⟨_, b, c⟩ := h; unfold cpath; rw [b, c]
theorem Cur.but {lo r r' : Nat} {w w' : World} {bs : List Br} {lv : List Int} {X : Cs} (h : Cur lo r w bs lv X) (hb : But r' w w') (hne : r ≠ r') (hn : r' < lo ∨ r ≤ r') : Cur lo r w' bs lv X := by
  obtain ⟨ob, m, cb, ol, q, cl, ok, nk, ck, o0, n0, c0, o1, n1, c1, hk, h⟩ := h
  have hi : ∀ {o : Option Addr}, In8 lo r o → ∀ a, o = some a → a.block ≠ r' := fun hI a ha => by
    have := hI a ha
    omega
  have hv : ∀ {o : Option Addr} {n c : Nat}, In8 lo r o → ∀ b, (Value.slice o n c).ownBlock = some b → b ≠ r' := fun hI b hb => by
    obtain ⟨a, ha, rfl⟩ := own_of hb
    exact hi hI a ha
  exact ⟨ob, m, cb, ol, q, cl, ok, nk, ck, o0, n0, c0, o1, n1, c1, hb.blk hk hne,
    { h with sB := hb.segR h.sB (hi h.iB), sL := hb.seg h.sL (hv h.iL), sK := hb.seg h.sK (hv h.iK), s0 := hb.seg h.s0 (hv h.i0), s1 := hb.seg h.s1 (hv h.i1) }⟩
/-- Two cursors at one place. -/
structure SkI (lo lo2 ra rb : Nat) (w2 w : World) (bs : List Br) (lv : List Int) (X Y : Cs) (k : Nat) : Prop where
  low : Below lo w2 w
  ca : Cur lo ra w bs lv X
  cb : Cur lo2 rb w bs lv Y
  h1 : lo ≤ ra
  h2 : ra < lo2
  h3 : lo2 ≤ rb
  eq : eqx X Y
  sa : X.s ≤ 400 * k
  sb : Y.s ≤ 400 * k
theorem SkI.later {lo lo2 ra rb k : Nat} {w2 w w' : World} {bs : List Br} {lv : List Int} {X Y : Cs} (h : SkI lo lo2 ra rb w2 w bs lv X Y k) (hb : Below w.heap.size w w') : SkI lo lo2 ra rb w2 w' bs lv X Y k :=
  { h with low := h.low.trans (hb.mono (by have := h.h1; have := h.ca.lt; omega)), ca := h.ca.later hb, cb := h.cb.later hb }
theorem Cur.drew {lo r : Nat} {w : World} {bs : List Br} {lv : List Int} {X : Cs} (h : Cur lo r w bs lv X) : Cur lo r w.drew bs lv X := h.later (Below.refl _ _).drew
theorem low_but {r : Nat} {w2 W W' : World} (h : Below w2.heap.size w2 W) (hb : But r W W') (hr : w2.heap.size ≤ r) : Below w2.heap.size w2 W' := h.trans (hb.below hr h.size)
/-- One cursor has sought, the other one goes next. -/
structure SkJ (lo lo2 ra rb : Nat) (w2 w : World) (bs : List Br) (lv : List Int) (X X4 Y : Cs) (j : Nat) : Prop where
  low : Below lo w2 w
  ca : Cur lo ra w bs lv X4
  cb : Cur lo2 rb w bs lv Y
  h1 : lo ≤ ra
  h2 : ra < lo2
  h3 : lo2 ≤ rb
  eq : eqx (X.on j 0) Y
  sb : Y.s ≤ 3200 + j
theorem SkJ.later {lo lo2 ra rb j : Nat} {w2 w w' : World} {bs : List Br} {lv : List Int} {X X4 Y : Cs} (h : SkJ lo lo2 ra rb w2 w bs lv X X4 Y j) (hb : Below w.heap.size w w') : SkJ lo lo2 ra rb w2 w' bs lv X X4 Y j :=
  { h with low := h.low.trans (hb.mono (by have := h.h1; have := h.ca.lt; omega)), ca := h.ca.later hb, cb := h.cb.later hb }
theorem on_zero (X : Cs) : eqx (X.on 0 0) X := by
  unfold Cs.on eqx
  split <;> simp_all
theorem on_more (X : Cs) (j : Nat) : eqx ((X.on j 0).on 1 1) (X.on (j + 1) 0) := by
  unfold Cs.on eqx
  split
  · simp
  · simp_all
theorem on_row {X : Cs} (j q : Nat) : (X.on j q).row = X.row.drop j := by
  unfold Cs.on Cs.row
  split
  · simp_all
  · split
    · simp_all
    · simp_all
theorem on_d {X : Cs} (j q : Nat) : (X.on j q).d = X.d := by
  unfold Cs.on
  split <;> simp_all
theorem on_s {X : Cs} (j q : Nat) : (X.on j q).s = X.s + q := by
  unfold Cs.on
  split <;> rfl
theorem drop_cons8 {l : List Int} {i : Nat} (hi : i < l.length) : l.drop i = l[i] :: l.drop (i + 1) := List.drop_eq_getElem_cons hi
theorem eqx_symm {X Y : Cs} (h : eqx X Y) : eqx Y X := ⟨h.1.symm, h.2.1.symm, h.2.2.symm⟩
theorem eqx_trans {X Y Z : Cs} (h : eqx X Y) (k : eqx Y Z) : eqx X Z := ⟨h.1.trans k.1, h.2.1.trans k.2.1, h.2.2.trans k.2.2⟩
theorem on_any (X : Cs) (j q q' : Nat) : eqx (X.on j q) (X.on j q') := by
  unfold Cs.on eqx
  split <;> simp
/-- What a move makes of a place. -/
def MvR (bs : List Br) (lv : List Int) (k key : Int) (X X' : Cs) : Prop := (cerr k X = 0 ∧ ∃ q, Lk8 k key X q ∧ X' = cgo bs lv k key q X) ∨ (cerr k X ≠ 0 ∧ X' = X)
theorem mvd_uni {lo r : Nat} {bs : List Br} {lv : List Int} {k key E : Int} {X : Cs} {w : World} {e : Ending} {w' : World} (h : Mvd lo r bs lv k key X w e w') (hE : cerr k X = E) : e = .returned (.int .i64 E) ∧ ∃ X', Hid (But r w w' ∧ Cur lo r w' bs lv X' ∧ MvR bs lv k key X X') := by
  obtain ⟨hb, rfl, ⟨h1, q, hq, hC⟩ | ⟨h1, hC⟩⟩ := h
  · exact ⟨by rw [hE], _, Lib.hid ⟨hb, hC, .inl ⟨h1, q, hq, rfl⟩⟩⟩
  · exact ⟨by rw [hE], _, Lib.hid ⟨hb, hC, .inr ⟨h1, rfl⟩⟩⟩
theorem MvR.eqx {bs : List Br} {lv : List Int} {k key : Int} {X X' Y Y' : Cs} (hx : MvR bs lv k key X X') (hy : MvR bs lv k key Y Y') (h : eqx X Y) : Kit.eqx X' Y' := by
  rcases hx with ⟨a, q, _, rfl⟩ | ⟨a, rfl⟩
  · rcases hy with ⟨b, q', _, rfl⟩ | ⟨b, rfl⟩
    · exact h.go _ _ _ _ _ _
    · exact absurd (by rw [← h.err]; exact a) b
  · rcases hy with ⟨b, q', _, rfl⟩ | ⟨b, rfl⟩
    · exact absurd (by rw [h.err]; exact b) a
    · exact h
theorem MvR.steps {bs : List Br} {lv : List Int} {k key : Int} {X X' : Cs} (hx : MvR bs lv k key X X') (hl : X.row.length ≤ 100000) : X'.s ≤ X.s + 200 := by
  rcases hx with ⟨a, q, hq, rfl⟩ | ⟨a, rfl⟩
  · exact (steps_go a hl hq).2
  · omega
set_option maxRecDepth 100000 in
set_option maxHeartbeats 16000000 in
theorem seeks_true (ob : Option Addr) (m cb : Nat) (ol : Option Addr) (q cl : Nat) (bs : List Br) (lv : List Int) (om : Option Addr) (n cm : Nat) (ms : List Mv) (w : World) (hm : bs.length = m) (hmc : m ≤ cb) (hcb : cb ≤ 9223372036854775807) (ab : ArgR w ob cb bs) (hq : lv.length = q) (hqc : q ≤ cl) (hcl : cl ≤ 9223372036854775807) (al : ArgI .u64 w ol cl lv) (hu : U64s (keysB bs)) (hl : U64s lv)
    (hn : ms.length = n) (hnc : n ≤ cm) (hcm : cm ≤ 9223372036854775807) (am : ArgM w om cm ms) (hk : ∀ x ∈ ms, 0 ≤ x.2 ∧ x.2 < 18446744073709551616) (key : Int) (k0 : 0 ≤ key) (k1 : key < 18446744073709551616) :
    Calls Try.prog 9 #[.agg #[.slice ob m cb, .slice ol q cl], .slice om n cm, .int .u64 key] w fun e w' => e = .returned (.bool true) ∧ Below w.heap.size w w' := by
  have HOWN := Lib.hid (fun W (g : Below w.heap.size w W) => own8_any ob m cb ol q cl bs lv W hm hmc hcb (ab.later g) hq hqc hcl (al.later g))
  have hub : U64s (keysB (bs.take 40)) := fun x hx => hu x (by unfold keysB at hx ⊢; rw [List.map_take] at hx; exact List.mem_of_mem_take hx)
  have hul : U64s (lv.take 80) := fun x hx => hl x (List.mem_of_mem_take hx)
  have hb40 : (bs.take 40).length ≤ 40 := by simp; omega
  have hl80 : (lv.take 80).length ≤ 80 := by simp; omega
  obtain ⟨BS, hBS⟩ : ∃ BS, BS = bs.take 40 := ⟨_, rfl⟩
  obtain ⟨LS, hLS⟩ : ∃ LS, LS = lv.take 80 := ⟨_, rfl⟩
  rw [← hBS] at hub hb40 HOWN
  rw [← hLS] at hul hl80 HOWN
  have HUB := Lib.hid hub
  have HUL := Lib.hid hul
  have HB40 := Lib.hid hb40
  have HL80 := Lib.hid hl80
  have HN := Lib.hid hn
  have HAM := Lib.hid am
  have HKM := Lib.hid hk
  clear hm hmc hcb ab hq hqc hcl al hu hl hub hul hb40 hl80 hBS hLS hn am hk
  go_enter Try.func9, Try.ntmps9
  go_wp2_with fail
  refine (wakes8_true _).mono ?_
  rintro e w1 ⟨rfl, l1⟩
  have k1 := (Blk.new w #[.slice ob m cb, .slice ol q cl] 25).later l1
  have g1 : Below w.heap.size w w1 := ((Below.refl _ _).alloc (Nat.le_refl _) _).trans (l1.mono (by simp))
  obtain ⟨c0, c1, lc⟩ := k1.two
  clear k1 l1
  go_wp2_with fail
  refine (HOWN.out _ g1).mono ?_
  rintro e wo ⟨o1, m1, y1, o2, q2, y2, rfl, hOB, hOL, lo1⟩
  have go := g1.trans (lo1.mono g1.size)
  have hm1 := segR_lenV hOB.seg
  have hq1 := segU_len hOL.seg
  clear lo1 g1 c0 c1 lc HOWN
  have HK01 := Lib.hid (And.intro k0 k1)
  go_wp2_with fail
  obtain ⟨w2, hw2⟩ : ∃ w2, w2 = wo.alloc (.cells #[.slice o1 m1 y1, .slice o2 q2 y2] 25) := ⟨_, rfl⟩
  have kT : Blk w2 wo.heap.size #[.slice o1 m1 y1, .slice o2 q2 y2] 25 := by rw [hw2]; exact Blk.new _ _ _
  have sB : SegR w2 (.slice o1 m1 y1) BS := by rw [hw2]; exact hOB.seg.alloc _
  have sL : Seg .u64 w2 (.slice o2 q2 y2) LS := by rw [hw2]; exact hOL.seg.alloc _
  have g2 : Below w.heap.size w w2 := by rw [hw2]; exact go.alloc go.size _
  obtain ⟨T, hT⟩ : ∃ T, T = wo.heap.size := ⟨_, rfl⟩
  rw [← hw2]
  rw [← hT] at kT ⊢
  have KT := Lib.hid kT
  have SB := Lib.hid sB
  have SL := Lib.hid sL
  have HM1 := Lib.hid hm1
  have HQ1 := Lib.hid hq1
  clear hw2 hT kT sB sL hOB hOL go hm1 hq1 k0 k1
  refine (cnew_any o1 m1 y1 o2 q2 y2 BS LS w2 SB.out SL.out HM1.out HQ1.out (by have := HM1.out; have := HB40.out; omega) (by have := HQ1.out; have := HL80.out; omega)).mono ?_
  by_cases hok : ok7 BS LS
  · rintro e w3 ⟨b3, hN⟩
    rw [if_pos hok] at hN
    obtain ⟨ra, rfl, hr, hC⟩ := hN
    have HCA := Lib.hid hC
    have HB3 := Lib.hid b3
    have HOK := Lib.hid hok
    have kt3 := KT.out.later b3
    obtain ⟨t0, t1, tl⟩ := kt3.two
    have G2 := Lib.hid g2
    clear hC b3 hok kt3 g2
    go_wp2_with fail
    refine (cnew_any o1 m1 y1 o2 q2 y2 BS LS w3 (SB.out.later HB3.out) (SL.out.later HB3.out) HM1.out HQ1.out (by have := HM1.out; have := HB40.out; omega) (by have := HQ1.out; have := HL80.out; omega)).mono ?_
    rintro e w4 ⟨b4, hN⟩
    rw [if_pos HOK.out] at hN
    obtain ⟨rb, rfl, hrb, hCb⟩ := hN
    have HS4 : Hid (SkI w2.heap.size w3.heap.size ra rb w2 w4 BS LS ⟨0, [], [], 0⟩ ⟨0, [], [], 0⟩ 0) := Lib.hid ⟨HB3.out.trans (b4.mono HB3.out.size), HCA.out.later b4, hCb, hr, HCA.out.lt, hrb, ⟨rfl, rfl, rfl⟩, by simp, by simp⟩
    clear hCb b4 HCA t0 t1 tl
    go_wp2_with fail
    go_loopw [12, 13, 46, 47, 48, 49, 50, 51, 52, 53, 54, 55, 56, 57, 58, 59, 60, 61, 62] (fun _ _ s46 _ _ _ _ _ _ _ _ _ _ _ _ _ _ _ _ wr => ∃ (k : Nat) (X Y : Cs), k ≤ n ∧ s46 = .int .i64 (k : Int) ∧ Hid (SkI w2.heap.size w3.heap.size ra rb w2 wr BS LS X Y (min k 8))) (fun _ _ s46 _ _ _ _ _ _ _ _ _ _ _ _ _ _ _ _ _ => n - (intOf s46).toNat)
    case atStart => exact ⟨0, ⟨0, [], [], 0⟩, ⟨0, [], [], 0⟩, Nat.zero_le _, rfl, HS4⟩
    case round =>
      obtain ⟨k, X, Y, hkn, rfl, HU⟩ := hrel
      clear HS4
      by_cases hlt : k < n
      · have hlow := below_later G2.out HU.out.low
        have hki : k < ms.length := by have := HN.out; omega
        obtain ⟨a, rfl, ha⟩ : ∃ a, om = some a ∧ ∀ i (h : i < ms.length), wr.cell? (a.add (i * 2)) = some (.int .i64 ms[i].1) ∧ wr.cell? (a.add (i * 2 + 1)) = some (.int .u64 ms[i].2) := by
          rcases HAM.out.later hlow with ⟨_, h0, _⟩ | h
          · rw [h0] at hki; simp at hki
          · exact h
        obtain ⟨e0, e1⟩ := ha k hki
        have hkey := HKM.out ms[k] (List.getElem_mem hki)
        obtain ⟨kd, hkd⟩ : ∃ kd, kd = ms[k].1 := ⟨_, rfl⟩
        obtain ⟨ky, hky⟩ : ∃ ky, ky = ms[k].2 := ⟨_, rfl⟩
        rw [← hkd] at e0
        rw [← hky] at e1 hkey
        rw [← Addr.add_add a (k * 2) 1] at e1
        have e2 : wr.cell? ⟨(a.add (k * 2)).block, (a.add (k * 2)).off + 1, none⟩ = some (.int .u64 ky) := e1
        have HKY := Lib.hid hkey
        have hc1 : (k : Int) < (n : Int) := by omega
        have hk0 : (0 : Int) ≤ (k : Int) := by omega
        have HLT := Lib.hid hlt
        clear hlow ha hkey hkd hky hki hkn e1 hlt
        by_cases h8 : k < 8
        · have hc2 : (k : Int) < 8 := by omega
          have HK8 := Lib.hid h8
          clear h8
          go_wp2_with fail
          obtain ⟨W1, hW1⟩ : ∃ W1, W1 = wr.alloc (.cells #[.int .i64 kd, .int .u64 ky] 70) := ⟨_, rfl⟩
          have hal : Below wr.heap.size wr W1 := by rw [hW1]; exact (Below.refl _ _).alloc (Nat.le_refl _) _
          have h9 : Blk W1 wr.heap.size #[.int .i64 kd, .int .u64 ky] 70 := by rw [hW1]; exact Blk.new _ _ _
          rw [← hW1]
          have hTa : wr.heap.size ≠ ra := by have := HU.out.ca.lt; omega
          have hTb : wr.heap.size ≠ rb := by have := HU.out.cb.lt; omega
          obtain ⟨T9, hT⟩ : ∃ T9, T9 = wr.heap.size := ⟨_, rfl⟩
          rw [← hT] at h9 hTa hTb ⊢
          have HU1 := Lib.hid (HU.out.later hal)
          clear hW1 hal hT HU e0 e2
          have hst := HU1.out.sa
          have hst2 := HU1.out.sb
          rw [Nat.min_eq_left (by have := HK8.out; omega)] at hst hst2
          obtain ⟨E, hE⟩ : ∃ E, E = cerr kd X := ⟨_, rfl⟩
          have HMA := Lib.hid (fun W (g : Cur w2.heap.size ra W BS LS X) => (kmove_any g (by have := HK8.out; omega) HUB.out HUL.out kd ky HKY.out.1 HKY.out.2).mono fun e w' h => mvd_uni h hE.symm)
          have HMB := Lib.hid (fun W (g : Cur w3.heap.size rb W BS LS Y) => (kmove_any g (by have := HK8.out; omega) HUB.out HUL.out kd ky HKY.out.1 HKY.out.2).mono fun e w' h => mvd_uni (E := E) h (by rw [hE, HU1.out.eq.err]))
          have hk : ∀ W', Blk W' T9 #[.int .i64 kd, .int .u64 ky] 70 → (W'.cell? ⟨T9, 0, none⟩ = some (.int .i64 kd) ∧ W'.cell? ⟨T9, 1, none⟩ = some (.int .u64 ky) ∧ T9 < W'.heap.size) ∧ Blk W' T9 #[.int .i64 kd, .int .u64 ky] 70 := fun W' h => ⟨⟨h.cell 0, h.cell 1, h.lt⟩, h⟩
          have HK := Lib.hid hk
          have hca := HU1.out.ca
          have hcb := HU1.out.cb
          have hlw := HU1.out.low
          have hab : ra ≠ rb := by have := HU1.out.h2; have := HU1.out.h3; omega
          have hba : rb ≠ ra := hab.symm
          have ho1 : ra < w3.heap.size ∨ rb ≤ ra := .inl HU1.out.h2
          have ho2 : rb < w2.heap.size ∨ ra ≤ rb := .inr (by have := HU1.out.h2; have := HU1.out.h3; omega)
          have hr1 : w2.heap.size ≤ ra := HU1.out.h1
          have hr2 : w2.heap.size ≤ rb := by have := HU1.out.h1; have := HU1.out.h2; have := HU1.out.h3; omega
          have HST := Lib.hid (And.intro hst hst2)
          clear hk hE hst hst2
          go_region_held3 (fun W' => (W'.cell? ⟨T9, 0, none⟩ = some (.int .i64 kd) ∧ W'.cell? ⟨T9, 1, none⟩ = some (.int .u64 ky) ∧ T9 < W'.heap.size) ∧ Blk W' T9 #[.int .i64 kd, .int .u64 ky] 70)
            (first | exact HK.out _ h9 | exact HK.out _ (h9.later (Below.refl _ _).drew))
            (first
              | (go_at_call 38; (with_reducible refine (HMA.out _ (by first | exact hca | exact hca.drew)).mono ?_); rintro e w5 ⟨rfl, XA, hXA⟩; have hbA := hXA.out.1; have h9 := hbA.blk (by first | exact h9 | exact h9.later (Below.refl _ _).drew) hTa; have hlw := low_but (by first | exact hlw | exact hlw.drew) hbA hr1; have hcaN := hXA.out.2.1; (first | (have hcbN := Cur.but hcbN hbA hba ho1) | (have hcb := Cur.but hcb hbA hba ho1) | (have hcb := Cur.but hcb.drew hbA hba ho1)))
              | (go_at_call 38; (with_reducible refine (HMB.out _ (by first | exact hcb | exact hcb.drew)).mono ?_); rintro e w6 ⟨rfl, XB, hXB⟩; have hbB := hXB.out.1; have h9 := hbB.blk (by first | exact h9 | exact h9.later (Below.refl _ _).drew) hTb; have hlw := low_but (by first | exact hlw | exact hlw.drew) hbB hr2; have hcbN := hXB.out.2.1; (first | (have hcaN := Cur.but hcaN hbB hab ho2) | (have hca := Cur.but hca hbB hab ho2) | (have hca := Cur.but hca.drew hbB hab ho2))))
          all_goals
            have hexr := MvR.eqx hXA.out.2.2 hXB.out.2.2 HU1.out.eq
            have hsA := MvR.steps hXA.out.2.2 HU1.out.ca.rowl
            have hsB := MvR.steps hXB.out.2.2 HU1.out.cb.rowl
            have HS6 := Lib.hid (SkI.mk (k := k + 1) hlw hcaN hcbN HU1.out.h1 HU1.out.h2 HU1.out.h3 hexr (by have := HST.out.1; omega) (by have := HST.out.2; omega))
            clear hexr hsA hsB hlw hcaN hcbN hXA hXB hbA hbB h9
            go_wp2_with fail
            go_roundw
            · refine ⟨k + 1, XA, XB, HLT.out, by simp, ?_⟩
              rw [Nat.min_eq_left (by have := HK8.out; omega)]
              exact HS6
            · have := HLT.out
              simp [intOf]
              omega
        · have hc2 : decide ((k : Int) < 8) = false := by simp; omega
          have HK8 := Lib.hid h8
          clear h8
          go_wp2_with fail
          obtain ⟨W1, hW1⟩ : ∃ W1, W1 = wr.alloc (.cells #[.int .i64 kd, .int .u64 ky] 70) := ⟨_, rfl⟩
          have hal : Below wr.heap.size wr W1 := by rw [hW1]; exact (Below.refl _ _).alloc (Nat.le_refl _) _
          have h9 : Blk W1 wr.heap.size #[.int .i64 kd, .int .u64 ky] 70 := by rw [hW1]; exact Blk.new _ _ _
          rw [← hW1]
          have hTa : wr.heap.size ≠ ra := by have := HU.out.ca.lt; omega
          have hTb : wr.heap.size ≠ rb := by have := HU.out.cb.lt; omega
          obtain ⟨T9, hT⟩ : ∃ T9, T9 = wr.heap.size := ⟨_, rfl⟩
          rw [← hT] at h9 hTa hTb ⊢
          have HU1 := Lib.hid (HU.out.later hal)
          clear hW1 hal hT HU e0 e2
          go_quiet (fail)
          go_wp2_with fail
          go_roundw
          · refine ⟨k + 1, X, Y, HLT.out, by simp, ?_⟩
            have h := HU1.out.later (below_drN (Below.refl _ _) nq)
            rw [Nat.min_eq_right (by have := HK8.out; omega)] at h ⊢
            exact Lib.hid h
          · have := HLT.out
            simp [intOf]
            omega
      · have hc : decide ((k : Int) < (n : Int)) = false := by simp; omega
        have hs8 : X.s ≤ 3200 ∧ Y.s ≤ 3200 := by have := HU.out.sa; have := HU.out.sb; have := Nat.min_le_right k 8; omega
        have HS8 := Lib.hid hs8
        clear hs8
        go_wp2_with fail
        refine (kSteps_any HU.out.ca).mono ?_
        rintro e W1 ⟨rfl, rfl⟩
        go_wp2_with fail
        refine (kLeft_any HU.out.ca).mono ?_
        rintro e W2 ⟨rfl, ba⟩
        have HU2 := Lib.hid (HU.out.later ba)
        clear ba HU
        go_wp2_with fail
        refine (kSeek_any HU2.out.ca (by have := HS8.out.1; omega) HUB.out HUL.out key HK01.out.1 HK01.out.2).mono ?_
        by_cases hce : cerr 4 X = 0
        · rintro e W3 hM
          obtain ⟨hb3, rfl, q3, hq3, hC3⟩ := mvd_ok hM hce
          obtain ⟨F, hF⟩ : ∃ F, F = cfar key X := ⟨_, rfl⟩
          obtain ⟨L, hL⟩ : ∃ L, L = X.row.length := ⟨_, rfl⟩
          obtain ⟨hq1, hq2⟩ := hq3 rfl
          have hX4 : cgo BS LS 4 key q3 X = X.on F q3 := by rw [hF]; rfl
          rw [hX4] at hC3
          rw [← hF] at hq2
          rw [← hL]
          have hFL : F ≤ L := by rw [hF, hL]; exact sk_le (Nat.zero_le _)
          have hLb : L ≤ 100000 := by rw [hL]; exact HU2.out.ca.rowl
          have hdX : 0 < X.d := by
            by_cases h0 : X.d = 0
            · simp [cerr, h0] at hce
            · omega
          have hbef : ∀ j (hj : j < X.row.length), j < F → X.row[j] < key := by
            intro j hj hjF
            rw [hF] at hjF
            have := sk_before (p := ge key) (Nat.zero_le j) hjF hj
            simpa [ge] using this
          have haft : ∀ hj : F < X.row.length, key ≤ X.row[F] := by
            intro hj
            have h0 : sk (ge key) X.row 0 < X.row.length := by rw [hF] at hj; exact hj
            have h1 := sk_at (p := ge key) h0
            have h2 : X.row[F] = X.row[sk (ge key) X.row 0] := by congr 1
            rw [h2]
            simpa [ge] using h1
          obtain ⟨X4, h4⟩ : ∃ X4, X4 = X.on F q3 := ⟨_, rfl⟩
          rw [← h4] at hC3
          obtain ⟨L4, hL4'⟩ : ∃ L4, L4 = L - F := ⟨_, rfl⟩
          have hL4 : X4.row.length = L4 := by rw [h4, on_row, List.length_drop, ← hL, hL4']
          have hs4 : X4.s = X.s + q3 := by rw [h4, on_s]
          have HEQ4 := Lib.hid (fun (Z : Cs) (g : eqx (X.on F 0) Z) => (show eqx X4 Z by rw [h4]; exact eqx_trans (on_any X F q3 0) g))
          have hne1 : rb ≠ ra := by have := HU2.out.h2; have := HU2.out.h3; omega
          have HJ0 : Hid (SkJ w2.heap.size w3.heap.size ra rb w2 W3 BS LS X X4 Y 0) := Lib.hid ⟨low_but HU2.out.low hb3 HU2.out.h1, hC3, HU2.out.cb.but hb3 hne1 (.inl HU2.out.h2), HU2.out.h1, HU2.out.h2, HU2.out.h3, eqx_trans (on_zero X) HU2.out.eq, by have := HS8.out.2; omega⟩
          have hlg : Nat.log2 (1 + (F : Int)).toNat = Nat.log2 (1 + F) := by rw [show (1 + (F : Int)).toNat = 1 + F by omega]
          obtain ⟨G, hG⟩ : ∃ G, G = Nat.log2 (1 + F) := ⟨_, rfl⟩
          rw [← hG] at hq2 hlg
          have hGb : G < 63 := by rw [hG]; exact log2_lt63 (by omega)
          have r1 : IntKind.i64.wrap ((L : Int) - (L4 : Int)) = (F : Int) := by rw [IntKind.wrap_i64]; omega
          have r2 : IntKind.i64.wrap ((X4.s : Int) - (X.s : Int)) = (q3 : Int) := by rw [IntKind.wrap_i64]; have := HS8.out.1; omega
          have r3 : IntKind.i64.wrap (1 + (F : Int)) = 1 + (F : Int) := by rw [IntKind.wrap_i64]; omega
          have r4 : IntKind.i64.wrap (2 * (G : Int)) = 2 * (G : Int) := by rw [IntKind.wrap_i64]; omega
          have r5 : IntKind.i64.wrap (2 + 2 * (G : Int)) = 2 + 2 * (G : Int) := by rw [IntKind.wrap_i64]; omega
          have r6 : (1 : Int) ≤ (q3 : Int) := by omega
          have r7 : (q3 : Int) ≤ 2 + 2 * (G : Int) := by omega
          have R8 := Lib.hid (show (-9223372036854775808 : Int) ≤ 1 + (F : Int) ∧ 1 + (F : Int) ≤ 9223372036854775807 ∧ Nat.log2 (1 + (F : Int)).toNat = G from ⟨by omega, by omega, hlg⟩)
          have HBEF := Lib.hid hbef
          have HAFT := Lib.hid haft
          have HL := Lib.hid hL
          have HDX := Lib.hid hdX
          have HFL := Lib.hid hFL
          clear hM hb3 hq3 hC3 hF hL hq1 hq2 hX4 hFL hbef haft h4 hL4' hs4 hG hGb HU2 hce hdX hlg
          go_wp2_with fail
          go_loopw [17, 18, 86, 87, 88, 89, 90, 91, 92, 93, 94, 95, 96, 97, 98, 99, 100, 101, 102, 103, 104, 105] (fun _ _ s86 _ _ _ _ _ _ _ _ _ _ _ _ _ _ _ _ _ _ _ wq => ∃ (j : Nat) (Z : Cs), j ≤ F ∧ s86 = .int .i64 (j : Int) ∧ Hid (SkJ w2.heap.size w3.heap.size ra rb w2 wq BS LS X X4 Z j)) (fun _ _ s86 _ _ _ _ _ _ _ _ _ _ _ _ _ _ _ _ _ _ _ _ => L + 1 - (intOf s86).toNat)
          case atStart => exact ⟨0, Y, Nat.zero_le _, rfl, HJ0⟩
          case round =>
            obtain ⟨j, Z, hjF, rfl, HJ⟩ := hrel
            clear HJ0
            by_cases hjL : j < L
            · have hjr : j < X.row.length := by have := HL.out; omega
              have hrow : Z.row = X.row.drop j := by rw [← HJ.out.eq.row, on_row]
              have hck : ckey Z = X.row[j] := by unfold ckey; rw [hrow, drop_cons8 hjr]; rfl
              have hne : decide (Z.row ≠ []) = true := by rw [hrow, drop_cons8 hjr]; exact decide_eq_true (List.cons_ne_nil _ _)
              have hjc : (j : Int) < (L : Int) := by omega
              obtain ⟨x, hx⟩ : ∃ x, x = X.row[j] := ⟨_, rfl⟩
              rw [← hx] at hck
              by_cases hjf : j < F
              · have hxk : decide (key ≤ x) = false := by rw [hx]; have := HBEF.out j hjr hjf; simp; omega
                have hc3 : cerr 3 Z = 0 := by
                  have hz : Z.row ≠ [] := of_decide_eq_true hne
                  have hd : 0 < Z.d := by rw [← HJ.out.eq.1, on_d]; exact HDX.out
                  simp [cerr, hz]
                  omega
                have HC3 := Lib.hid hc3
                have HCN := Lib.hid (And.intro hck hne)
                have HJL := Lib.hid hjf
                clear hrow hck hne hx hjr hc3 hjF hjf hjL
                go_wp2_with fail
                refine (kKey_any HJ.out.cb).mono ?_
                rw [HCN.out.1, HCN.out.2]
                rintro e wc ⟨rfl, bc⟩
                have HJc := Lib.hid (HJ.out.later bc)
                clear bc HJ
                go_wp2_with fail
                refine (kNext_any HJc.out.cb (by have := HJc.out.sb; have := HFL.out; have := HJL.out; omega) HUB.out HUL.out).mono ?_
                rintro e wd hM
                obtain ⟨hbd, rfl, qd, _, hCd⟩ := mvd_ok hM HC3.out
                have e9 : cgo BS LS 3 0 qd Z = Z.on 1 1 := rfl
                rw [e9] at hCd
                have HJd : Hid (SkJ w2.heap.size w3.heap.size ra rb w2 wd BS LS X X4 (Z.on 1 1) (j + 1)) := Lib.hid ⟨low_but HJc.out.low hbd (by have := HJc.out.h1; have := HJc.out.h2; have := HJc.out.h3; omega), HJc.out.ca.but hbd hne1.symm (.inr (by have := HJc.out.h2; have := HJc.out.h3; omega)), hCd, HJc.out.h1, HJc.out.h2, HJc.out.h3, eqx_trans (eqx_symm (on_more X j)) (HJc.out.eq.on 1 1 1), by rw [on_s]; have := HJc.out.sb; omega⟩
                clear hM hbd hCd e9 HJc
                go_wp2_with fail
                go_roundw
                · exact ⟨j + 1, Z.on 1 1, HJL.out, by simp, HJd⟩
                · have := HJL.out
                  have := HFL.out
                  simp [intOf]
                  omega
              · obtain rfl : F = j := by omega
                have hxk : decide (key ≤ x) = true := by rw [hx]; simpa using HAFT.out hjr
                have HCN := Lib.hid (And.intro hck hne)
                clear hrow hck hne hx hjr hjF hjf hjL
                go_wp2_with fail
                refine (kKey_any HJ.out.cb).mono ?_
                rw [HCN.out.1, HCN.out.2]
                rintro e wc ⟨rfl, bc⟩
                have HJ := Lib.hid (HJ.out.later bc)
                clear bc
                go_wp2_with fail
                refine (kLeft_any HJ.out.ca).mono ?_
                rw [hL4]
                rintro e wd ⟨rfl, bd⟩
                have HJd := Lib.hid (HJ.out.later bd)
                clear bd HJ
                go_wp2_with fail
                refine (kSteps_any HJd.out.ca).mono ?_
                rintro e we ⟨rfl, rfl⟩
                go_wp2_with fail
                refine (kPath_any HJd.out.ca).mono ?_
                rintro e wf ⟨v1, rfl, hO1, bf⟩
                have HO1 := Lib.hid hO1.seg
                have HJf := Lib.hid (HJd.out.later bf)
                clear bf HJd hO1
                go_wp2_with fail
                refine (kPath_any HJf.out.cb).mono ?_
                rw [show cpath Z = cpath X4 from (eqx.path (HEQ4.out Z HJf.out.eq)).symm]
                rintro e wg ⟨v2, rfl, hO2, bg⟩
                have HO2 := Lib.hid hO2.seg
                have HO1g := Lib.hid (HO1.out.later bg)
                have HJg := Lib.hid (HJf.out.later bg)
                clear bg HJf hO2 HO1
                go_wp2_with fail
                refine (equalu_same HO1g.out HO2.out).mono ?_
                rintro e wh ⟨rfl, bh⟩
                have HJh := Lib.hid (HJg.out.later bh)
                clear bh HJg HO1g HO2
                go_wp2_with fail
                refine (kLeft_any HJh.out.ca).mono ?_
                rw [hL4]
                rintro e wi ⟨rfl, bi⟩
                have HJi := Lib.hid (HJh.out.later bi)
                clear bi HJh
                go_wp2_with fail
                refine (kLeft_any HJi.out.cb).mono ?_
                rw [show Z.row.length = L4 by rw [← (HEQ4.out Z HJi.out.eq).row]; exact hL4]
                rintro e wk ⟨rfl, bk⟩
                have hlow := below_later G2.out (HJi.out.later bk).low
                clear bk HJi
                go_wp2_with fail
                refine (gLog_any (1 + (F : Int)) R8.out.1 R8.out.2.1 _).mono ?_
                rw [R8.out.2.2]
                rintro e wl ⟨rfl, rfl⟩
                go_wp2_with fail
                go_ret
                exact ⟨rfl, hlow⟩
            · have hjf : F = j := by have := HFL.out; omega
              have hjc : decide ((j : Int) < (L : Int)) = false := by simp; omega
              subst hjf
              go_wp2_with fail
              refine (kLeft_any HJ.out.ca).mono ?_
              rw [hL4]
              rintro e wd ⟨rfl, bd⟩
              have HJd := Lib.hid (HJ.out.later bd)
              clear bd HJ
              go_wp2_with fail
              refine (kSteps_any HJd.out.ca).mono ?_
              rintro e we ⟨rfl, rfl⟩
              go_wp2_with fail
              refine (kPath_any HJd.out.ca).mono ?_
              rintro e wf ⟨v1, rfl, hO1, bf⟩
              have HO1 := Lib.hid hO1.seg
              have HJf := Lib.hid (HJd.out.later bf)
              clear bf HJd hO1
              go_wp2_with fail
              refine (kPath_any HJf.out.cb).mono ?_
              rw [show cpath Z = cpath X4 from (eqx.path (HEQ4.out Z HJf.out.eq)).symm]
              rintro e wg ⟨v2, rfl, hO2, bg⟩
              have HO2 := Lib.hid hO2.seg
              have HO1g := Lib.hid (HO1.out.later bg)
              have HJg := Lib.hid (HJf.out.later bg)
              clear bg HJf hO2 HO1
              go_wp2_with fail
              refine (equalu_same HO1g.out HO2.out).mono ?_
              rintro e wh ⟨rfl, bh⟩
              have HJh := Lib.hid (HJg.out.later bh)
              clear bh HJg HO1g HO2
              go_wp2_with fail
              refine (kLeft_any HJh.out.ca).mono ?_
              rw [hL4]
              rintro e wi ⟨rfl, bi⟩
              have HJi := Lib.hid (HJh.out.later bi)
              clear bi HJh
              go_wp2_with fail
              refine (kLeft_any HJi.out.cb).mono ?_
              rw [show Z.row.length = L4 by rw [← (HEQ4.out Z HJi.out.eq).row]; exact hL4]
              rintro e wk ⟨rfl, bk⟩
              have hlow := below_later G2.out (HJi.out.later bk).low
              clear bk HJi
              go_wp2_with fail
              refine (gLog_any (1 + (F : Int)) R8.out.1 R8.out.2.1 _).mono ?_
              rw [R8.out.2.2]
              rintro e wl ⟨rfl, rfl⟩
              go_wp2_with fail
              go_ret
              exact ⟨rfl, hlow⟩
        · rintro e W3 ⟨hb3, rfl, ⟨h1, _⟩ | ⟨_, hC3⟩⟩
          · exact absurd h1 hce
          have hd : X.d = 0 ∨ X.row.length = 0 := by
            by_cases h0 : X.d = 0
            · exact .inl h0
            · by_cases hr0 : X.row = []
              · exact .inr (by rw [hr0]; rfl)
              · exact absurd (by simp [cerr, h0, hr0]) hce
          have hlow := below_later G2.out (low_but HU2.out.low hb3 HU2.out.h1)
          obtain ⟨E, hE⟩ : ∃ E, E = cerr 4 X := ⟨_, rfl⟩
          rw [← hE] at hce ⊢
          have hE0 : (E == 0) = false := by simpa using hce
          have HC3 := Lib.hid hC3
          have HD := Lib.hid hd
          clear hb3 hC3 hE hce HU2 hd
          go_wp2_with fail
          refine (kSteps_any HC3.out).mono ?_
          rintro e W4 ⟨rfl, rfl⟩
          go_wp2_with fail
          refine (kDepth_any HC3.out).mono ?_
          rintro e W5 ⟨rfl, rfl⟩
          by_cases h0 : X.d = 0
          · rw [h0]
            go_wp2_with fail
            go_ret
            exact ⟨rfl, hlow⟩
          · have hl0 := HD.out.resolve_left h0
            have hd0 : ((X.d : Int) == 0) = false := by simp; omega
            rw [hl0]
            clear h0 hl0 HD
            go_wp2_with fail
            go_ret
            exact ⟨rfl, hlow⟩
  · rintro e w3 ⟨b3, hN⟩
    rw [if_neg hok] at hN
    subst hN
    have HB3 := Lib.hid b3
    have HOK := Lib.hid hok
    have kt3 := KT.out.later b3
    obtain ⟨t0, t1, tl⟩ := kt3.two
    have g3 := g2.trans (b3.mono g2.size)
    clear b3 hok g2 kt3
    go_wp2_with fail
    refine (cnew_any o1 m1 y1 o2 q2 y2 BS LS w3 (SB.out.later HB3.out) (SL.out.later HB3.out) HM1.out HQ1.out (by have := HM1.out; have := HB40.out; omega) (by have := HQ1.out; have := HL80.out; omega)).mono ?_
    rintro e w4 ⟨b4, hN⟩
    rw [if_neg HOK.out] at hN
    subst hN
    have g4 := g3.trans (b4.mono g3.size)
    clear b4 g3 t0 t1 tl
    go_wp2_with fail
    go_ret
    exact ⟨rfl, g4⟩
end Go.Proofs.Ytjfnhjmdgfkgnaa


/- An argument that is a row of moves. -/
namespace Go.Proofs.Ytjfnhjmdgfkgnaa
open Go.ChangeShapes Go.WideShapes Go.ChangeAt Go.RowKit Go.Joins Go.Proofs.Kit
theorem cells_move : Try.prog.cellsOf 70 = 2 := by kernel_rfl
section
variable {H : Type} {enc : TypeId × Value → H} {W : World}
set_option maxRecDepth 100000 in
theorem cells_moves_open {fuel : Nat} {v : Value} {x : DataW H × List MemPlace} (h : DataW.trod enc Try.prog W 0 (fun _ => true) true fuel 59 [v] = some x) :
    ∃ (o : Option Addr) (n c : Nat) (l : List Mv), v = .slice o n c ∧ l.length = n ∧ n ≤ c ∧ c ≤ 9223372036854775807 ∧ ArgM W o c l ∧ ∀ x ∈ l, 0 ≤ x.2 ∧ x.2 < 18446744073709551616 := by
  rcases Deep.open_slice Try.underlying59 h with ⟨h0, _⟩ | ⟨a, len, cap, m, n, D, Pl, h0, _, hl, hm, hmm, _, hx⟩
  · simp only [List.cons.injEq, and_true] at h0
    exact ⟨none, 0, 0, [], h0, rfl, by omega, by omega, .inl ⟨rfl, rfl, rfl⟩, by simp⟩
  · simp only [List.cons.injEq, and_true] at h0
    subst h0
    simp only [if_true] at hmm
    have each : ∀ i, i < len → ∃ q : Mv, (0 ≤ q.2 ∧ q.2 < 18446744073709551616) ∧ W.cell? (a.add (i * 2)) = some (.int .i64 q.1) ∧ W.cell? (a.add (i * 2 + 1)) = some (.int .u64 q.2) := by
      intro i hi
      obtain ⟨cs', h1, h2⟩ := hx i (by omega)
      rw [cells_move] at h1
      obtain ⟨_, hlen, hcell⟩ := World.cells?_some h1
      obtain ⟨xs, k, _, _, _, hxl, hf⟩ := DataW.trod_struct Try.underlying70 h2
      match xs, hxl, cs', hlen with
      | [y0, y1], _, [v0, v1], _ =>
        have g0 := hf 0 _ rfl
        have g1 := hf 1 _ rfl
        simp [cells_u64, cells_int] at g0 g1
        have e0 := hcell 0 (by omega)
        have e1 := hcell 1 (by omega)
        rw [Deep.add_add] at e0 e1
        obtain ⟨x0, z0, _, _⟩ := DataW.trod_int Try.underlying3 g0
        obtain ⟨x1, z1, _, hw1⟩ := DataW.trod_int Try.underlying32 g1
        simp only [List.cons.injEq, and_true] at z0 z1
        subst z0 z1
        exact ⟨(x0, x1), wf_u64 hw1, by simpa using e0, by simpa using e1⟩
    obtain ⟨q, hq⟩ := Deep.choose_lt each
    unfold maxLen at hm
    refine ⟨some a, len, cap, (List.range len).map q, rfl, by simp, hl, by omega, .inr ⟨a, rfl, fun i hi => ?_⟩, fun x hx => ?_⟩
    · have hi' : i < len := by simpa using hi
      simp only [List.getElem_map, List.getElem_range]
      exact (hq i hi').2
    · obtain ⟨i, hi, rfl⟩ := List.mem_map.1 hx
      exact (hq i (List.mem_range.1 hi)).1
set_option maxRecDepth 100000 in
theorem open_argM {r : Reach} {b0 : Nat} {v : Value} {d : DataW H} {p : List MemPlace} (hv : Value.okWide Try.prog W r b0 59 v) (h : DataW.Trod enc Try.prog W 0 (fun _ => true) true 59 v d p) :
    ∃ (o : Option Addr) (n c : Nat) (l : List Mv), v = .slice o n c ∧ l.length = n ∧ n ≤ c ∧ c ≤ 9223372036854775807 ∧ ArgM W o c l ∧ ∀ x ∈ l, 0 ≤ x.2 ∧ x.2 < 18446744073709551616 := by
  obtain ⟨o, len, cap, rfl⟩ := okWide_slice Try.underlying59 hv
  obtain ⟨fuel, hf⟩ := h
  exact cells_moves_open hf
end
end Go.Proofs.Ytjfnhjmdgfkgnaa


/- CursorGoes: where a cursor stands, move by move: for all tries and all rows of moves the law returns true. No condition. -/
namespace Go.Proofs.Ytjfnhjmdgfkgnaa
open Go.ChangeShapes Go.WideShapes Go.ChangeAt Go.RowKit Go.Joins Go.Proofs.Kit

set_option maxRecDepth 100000 in
theorem cursorGoes_lifted (os : Os) (started : os.Started) (H : Type) (enc : TypeId × Value → H) :
    ReturnsInHanded {} Try.checked os 6 .any (Rows.cursorGoesSpec.pre6 enc Try.prog Try.f6 Rows.cursorGoesRow.domain false) (Rows.cursorGoesSpec.post enc Try.prog Try.f6 false true false false) := by
  refine returnsInHanded_of_change (C := Try.checked) own started (by kernel_rfl) Try.func6
    (ChangeSpec.witness6 (enc := enc) (C := Try.checked) false ⟨#[], #[.agg #[.slice none 0 0, .slice none 0 0], .slice none 0 0], []⟩ 8 (by kernel_rfl) (by kernel_rfl) (by kernel_rfl) (by kernel_rfl)) ?_
  intro W base args ds gs before hval0 hW _ _
  have hval : ∀ (j : Nat) t v, Try.f6.params[j]? = some t → args[j]? = some v → Value.okWide Try.prog W .any base t v := hval0
  have hW' := hW
  obtain ⟨p, q, hA0, hV, rfl, _, _⟩ := hW
  have hA : DataW.TrodAll enc Try.prog W 0 (fun _ => true) true Try.f6.params.toList args.toList ds p := hA0
  rw [Try.params6] at hA hval
  obtain ⟨v0, v1, d0, d1, p0, p1, rfl, rfl, rfl, h0, h1⟩ := trodAll_two hA
  obtain ⟨rfl, rfl⟩ := trodVars_none hV
  obtain ⟨ob, m, cb, bs, ol, q, cl, lv, rfl, t1, t2, t3, t4, t5, t6, t7, t8, hu, hl⟩ := open_trieU (hval 0 25 v0 rfl rfl) h0
  obtain ⟨om, n, cm, ms, rfl, u1, u2, u3, u4, u5⟩ := open_argM (hval 1 59 v1 rfl rfl) h1
  refine (goes_true ob m cb ol q cl bs lv om n cm ms W t1 t2 t3 t4 t5 t6 t7 t8 hu hl u1 u2 u3 u4 u5).mono fun e W' ⟨he, hb⟩ => ?_
  subst he
  exact ⟨_, rfl, law_post laidOut (by kernel_rfl) (by kernel_rfl : Try.f6.resultTypes = #[4]) Try.underlying4 rfl hW' rfl hb⟩

theorem cursorGoes_holds : Rows.CursorGoesSaid :=
  OpenClaim.holds_of_wide 6 Try.f6 rfl rfl rfl rfl rfl rfl rfl ⟨rfl, rfl, rfl, rfl, rfl⟩ rfl rfl rfl rfl rfl (by kernel_rfl) Try.func6 (by kernel_rfl)
    (of_decide_eq_true (by kernel_rfl)) (by unfold Func.isWrapper; first | (rw [if_pos (by decide +kernel)]; kernel_rfl) | (rw [if_neg (by decide +kernel)]; exact ⟨rfl, rfl⟩))
    (fun os started H enc _ => cursorGoes_lifted os started H enc)
#print axioms cursorGoes_holds
end Go.Proofs.Ytjfnhjmdgfkgnaa

