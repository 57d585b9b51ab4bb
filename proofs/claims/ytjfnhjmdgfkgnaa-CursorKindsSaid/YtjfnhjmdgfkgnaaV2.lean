/- The cursor's steps: on, within, leaves. -/
import Derived.Test.YtjfnhjmdgfkgnaaV1
import Derived.Deep.CutBlock
import Derived.Test.YtjfnhjmdgfkgnaaU12
namespace Go.Proofs.Kit
open Go.RowKit
theorem Blk.all7 {w : World} {b : Nat} {v0 v1 v2 v3 v4 v5 v6 : Value} {t : TypeId} (h : Blk w b #[v0, v1, v2, v3, v4, v5, v6] t) :
    w.cell? ⟨b, 0, none⟩ = some v0 ∧ w.cell? ⟨b, 1, none⟩ = some v1 ∧ w.cell? ⟨b, 2, none⟩ = some v2 ∧ w.cell? ⟨b, 3, none⟩ = some v3 ∧ w.cell? ⟨b, 4, none⟩ = some v4 ∧ w.cell? ⟨b, 5, none⟩ = some v5 ∧ w.cell? ⟨b, 6, none⟩ = some v6 :=
  ⟨h.cell 0, h.cell 1, h.cell 2, h.cell 3, h.cell 4, h.cell 5, h.cell 6⟩
end Go.Proofs.Kit
namespace Go.Proofs.Ytjfnhjmdgfkgnaa
open Go.RowKit Go.Proofs.Kit Go.Shelf

section
variable (ob : Option Addr) (m cb : Nat) (ol : Option Addr) (q cl : Nat) (ok : Option Addr) (nk ck : Nat) (o0 : Option Addr) (n0 c0 : Nat) (o1 : Option Addr) (n1 c1 : Nat)
set_option maxRecDepth 100000 in
set_option maxHeartbeats 4000000 in
theorem con1 (s p x : Nat) (b f : Nat) (w : World) (hp : p ≤ n0) (hn : n0 ≤ c0) (hs : s ≤ 1000000000000) (hx : x ≤ 1000000000000) :
    Calls Try.prog 131 #[.agg (SC ob m cb ol q cl ok nk ck 1 (some (Addr.mk b f none)) n0 c0 o1 n1 c1 (s : Int)), .int .i64 (p : Int), .int .i64 (x : Int)] w fun e w' =>
      ∃ f', e = .returned (.agg (SC ob m cb ol q cl ok nk ck 1 (some (Addr.mk b f' none)) (n0 - p) (n0 - p) o1 n1 c1 ((s + x : Nat) : Int))) ∧ (p < n0 → f' = f + p) ∧ Below w.heap.size w w' := by
  go_enter Try.func131, Try.ntmps131
  go_wp2_with fail
  refine (crow1 ob m cb ol q cl ok nk ck _ _ _ _ _ _ _ _).mono ?_
  rintro e w1 ⟨rfl, rfl⟩
  go_wp2_with fail
  go_region
  go_wp2
  all_goals
    first
    | (exact bodyPost_ret (v := _) (by simp [results, Try.results131, go_sem]; rfl) rfl ⟨f + p, by simp, fun _ => rfl, by repeat' (first | exact Below.refl _ _ | refine Below.setCell ?_ (by simp <;> omega) _ | refine Below.alloc ?_ (by simp <;> omega) _ | apply Below.drew)⟩)
    | exact bodyPost_ret (v := _) (by simp [results, Try.results131, go_sem]; rfl) rfl ⟨⟨_, rfl⟩, by repeat' (first | exact Below.refl _ _ | refine Below.setCell ?_ (by simp <;> omega) _ | refine Below.alloc ?_ (by simp <;> omega) _ | apply Below.drew)⟩
set_option maxRecDepth 100000 in
set_option maxHeartbeats 4000000 in
theorem con2 (s p x : Nat) (b f : Nat) (w : World) (hp : p ≤ n1) (hn : n1 ≤ c1) (hs : s ≤ 1000000000000) (hx : x ≤ 1000000000000) :
    Calls Try.prog 131 #[.agg (SC ob m cb ol q cl ok nk ck 2 o0 n0 c0 (some (Addr.mk b f none)) n1 c1 (s : Int)), .int .i64 (p : Int), .int .i64 (x : Int)] w fun e w' =>
      ∃ f', e = .returned (.agg (SC ob m cb ol q cl ok nk ck 2 o0 n0 c0 (some (Addr.mk b f' none)) (n1 - p) (n1 - p) ((s + x : Nat) : Int))) ∧ (p < n1 → f' = f + p) ∧ Below w.heap.size w w' := by
  go_enter Try.func131, Try.ntmps131
  go_wp2_with fail
  refine (crow2 ob m cb ol q cl ok nk ck _ _ _ _ _ _ _ _).mono ?_
  rintro e w1 ⟨rfl, rfl⟩
  go_wp2_with fail
  go_region
  go_wp2
  all_goals
    first
    | (exact bodyPost_ret (v := _) (by simp [results, Try.results131, go_sem]; rfl) rfl ⟨f + p, by simp, fun _ => rfl, by repeat' (first | exact Below.refl _ _ | refine Below.setCell ?_ (by simp <;> omega) _ | refine Below.alloc ?_ (by simp <;> omega) _ | apply Below.drew)⟩)
    | exact bodyPost_ret (v := _) (by simp [results, Try.results131, go_sem]; rfl) rfl ⟨⟨_, rfl⟩, by repeat' (first | exact Below.refl _ _ | refine Below.setCell ?_ (by simp <;> omega) _ | refine Below.alloc ?_ (by simp <;> omega) _ | apply Below.drew)⟩

set_option maxRecDepth 100000 in
set_option maxHeartbeats 4000000 in
theorem cwithin_all (b f n c : Nat) (key r : Int) (w : World) (h1 : 1 ≤ n) (hn : n ≤ c) (hc : c ≤ 9223372036854775807) (hr : w.cell? ⟨b, f, none⟩ = some (.int .u64 r)) (far : Int) (hw : IntKind.u64.wrap (key - r) = far) (hf : (n : Int) ≤ far) :
    Calls Try.prog 133 #[.slice (some ⟨b, f, none⟩) n c, .int .u64 key] w fun e w' => e = .returned (.slice (some ⟨b, f, none⟩) n c) ∧ Below w.heap.size w w' := by
  have hm : (n : Int) % 18446744073709551616 = n := by omega
  go_enter Try.func133, Try.ntmps133
  go_wp2
  go_ret
  exact ⟨rfl, by repeat' (first | exact Below.refl _ _ | refine Below.setCell ?_ (by simp <;> omega) _ | refine Below.alloc ?_ (by simp <;> omega) _ | apply Below.drew)⟩
set_option maxRecDepth 100000 in
set_option maxHeartbeats 4000000 in
theorem cwithin_part (b f n c k : Nat) (key r : Int) (w : World) (hn : n ≤ c) (hc : c ≤ 9223372036854775807) (hr : w.cell? ⟨b, f, none⟩ = some (.int .u64 r)) (hw : IntKind.u64.wrap (key - r) = (k : Int)) (hk : k < n) :
    Calls Try.prog 133 #[.slice (some ⟨b, f, none⟩) n c, .int .u64 key] w fun e w' => e = .returned (.slice (some ⟨b, f, none⟩) (k + 1) (k + 1)) ∧ Below w.heap.size w w' := by
  have hm : (n : Int) % 18446744073709551616 = n := by omega
  go_enter Try.func133, Try.ntmps133
  go_wp2
  go_ret
  exact ⟨rfl, by repeat' (first | exact Below.refl _ _ | refine Below.setCell ?_ (by simp <;> omega) _ | refine Below.alloc ?_ (by simp <;> omega) _ | apply Below.drew)⟩

set_option maxRecDepth 100000 in
set_option maxHeartbeats 8000000 in
theorem cleaves_any (B F bl fl i x y : Nat) (a s : Int) (w : World) (hB : B < w.heap.size) (h0 : 0 < n0) (hn : n0 ≤ nk) (hnm : nk ≤ 1000000) (hi : nk - n0 = i) (him : i < m) (k0 : w.cell? ⟨B, F + i * 3, none⟩ = some (.int .u64 a)) (k1 : w.cell? ⟨B, F + i * 3 + 1, none⟩ = some (.int .i64 (x : Int))) (k2 : w.cell? ⟨B, F + i * 3 + 2, none⟩ = some (.int .i64 (y : Int)))
    (hxy : x < y) (hyq : y ≤ q) (hq : q ≤ cl) :
    Calls Try.prog 129 #[.agg (SC (some ⟨B, F, none⟩) m cb (some ⟨bl, fl, none⟩) q cl ok nk ck 1 o0 n0 c0 o1 n1 c1 s)] w fun e w' => e = .returned (.slice (some ⟨bl, fl + x, none⟩) (y - x) (y - x)) ∧ Below w.heap.size w w' := by
  have K0 := Lib.hid k0
  have K1 := Lib.hid k1
  have K2 := Lib.hid k2
  clear k0 k1 k2
  have e1 : IntKind.i64.wrap ((nk : Int) - (n0 : Int)) = (i : Int) := by rw [IntKind.wrap_i64]; omega
  have e2 : (0 : Int) ≤ (i : Int) := by omega
  have e3 : (i : Int) < (m : Int) := by omega
  go_enter Try.func129, Try.ntmps129
  go_wp2_with fail
  refine (cmust1 (some ⟨B, F, none⟩) m cb (some ⟨bl, fl, none⟩) q cl ok nk ck o0 n0 c0 o1 n1 c1 s _ h0).mono ?_
  rintro e w1 ⟨rfl, b1⟩
  have kS := (Blk.new w (SC (some ⟨B, F, none⟩) m cb (some ⟨bl, fl, none⟩) q cl ok nk ck 1 o0 n0 c0 o1 n1 c1 s) 111).below b1 (by simp)
  have b2 : Below w.heap.size w w1 := ((Below.refl _ _).alloc (Nat.le_refl _) _).trans (b1.mono (by simp))
  have K0 := (b2.cell (p := ⟨B, F + i * 3, none⟩) hB).trans K0.out
  have K1 := (b2.cell (p := ⟨B, F + i * 3 + 1, none⟩) hB).trans K1.out
  have K2 := (b2.cell (p := ⟨B, F + i * 3 + 2, none⟩) hB).trans K2.out
  have hk : ∀ W', Below w1.heap.size w1 W' → ((W'.cell? ⟨w.heap.size, 0, none⟩ = some (.slice (some ⟨B, F, none⟩) m cb) ∧ W'.cell? ⟨w.heap.size, 1, none⟩ = some (.slice (some ⟨bl, fl, none⟩) q cl) ∧ W'.cell? ⟨w.heap.size, 2, none⟩ = some (.slice ok nk ck) ∧ W'.cell? ⟨w.heap.size, 3, none⟩ = some (.int .i64 1) ∧ W'.cell? ⟨w.heap.size, 4, none⟩ = some (.slice o0 n0 c0) ∧ W'.cell? ⟨w.heap.size, 5, none⟩ = some (.slice o1 n1 c1) ∧ W'.cell? ⟨w.heap.size, 6, none⟩ = some (.int .i64 s)) ∧ (W'.cell? ⟨B, F + i * 3, none⟩ = some (.int .u64 a) ∧ W'.cell? ⟨B, F + i * 3 + 1, none⟩ = some (.int .i64 (x : Int)) ∧ W'.cell? ⟨B, F + i * 3 + 2, none⟩ = some (.int .i64 (y : Int))) ∧ w.heap.size < W'.heap.size) ∧ Below w1.heap.size w1 W' := fun W' h => ⟨⟨(kS.later h).all7, ⟨(h.cell (p := ⟨B, F + i * 3, none⟩) (by have := b2.size; simp; omega)).trans K0, (h.cell (p := ⟨B, F + i * 3 + 1, none⟩) (by have := b2.size; simp; omega)).trans K1, (h.cell (p := ⟨B, F + i * 3 + 2, none⟩) (by have := b2.size; simp; omega)).trans K2⟩, (kS.later h).lt⟩, h⟩
  have HK := Lib.hid hk
  have hws : Below w1.heap.size w1 w1 := Below.refl _ _
  have b2s := b2.size
  have B2 := Lib.hid b2
  clear kS b1 hk K0 K1 K2 b2
  go_wp2_with fail
  go_region_held3 (fun W' => ((W'.cell? ⟨w.heap.size, 0, none⟩ = some (.slice (some ⟨B, F, none⟩) m cb) ∧ W'.cell? ⟨w.heap.size, 1, none⟩ = some (.slice (some ⟨bl, fl, none⟩) q cl) ∧ W'.cell? ⟨w.heap.size, 2, none⟩ = some (.slice ok nk ck) ∧ W'.cell? ⟨w.heap.size, 3, none⟩ = some (.int .i64 1) ∧ W'.cell? ⟨w.heap.size, 4, none⟩ = some (.slice o0 n0 c0) ∧ W'.cell? ⟨w.heap.size, 5, none⟩ = some (.slice o1 n1 c1) ∧ W'.cell? ⟨w.heap.size, 6, none⟩ = some (.int .i64 s)) ∧ (W'.cell? ⟨B, F + i * 3, none⟩ = some (.int .u64 a) ∧ W'.cell? ⟨B, F + i * 3 + 1, none⟩ = some (.int .i64 (x : Int)) ∧ W'.cell? ⟨B, F + i * 3 + 2, none⟩ = some (.int .i64 (y : Int))) ∧ w.heap.size < W'.heap.size) ∧ Below w1.heap.size w1 W')
      (first | exact HK.out _ hws | exact HK.out _ hws.drew | exact HK.out _ (hws.alloc hws.size _) | exact HK.out _ (hws.drew.alloc hws.size _) | exact HK.out _ (hws.alloc hws.size _).drew | exact HK.out _ (((hws.setCell (by first | (simp; done) | (have := hws.size; simp; omega)) _).setCell (by first | (simp; done) | (have := hws.size; simp; omega)) _).setCell (by first | (simp; done) | (have := hws.size; simp; omega)) _))
      ((go_at_call 82; (with_reducible refine (crow1b (some ⟨B, F, none⟩) m cb (some ⟨bl, fl, none⟩) q cl ok nk ck o0 n0 c0 o1 n1 c1 s _).mono ?_); rintro e w3 ⟨rfl, lF⟩; (first | (have kz := kz.later lF) | (have kz : Blk w3 _ #[.int .u64 0, .int .i64 0, .int .i64 0] 68 := (Blk.new _ _ _).later lF) | (have kz : Blk w3 _ #[.int .u64 0, .int .i64 0, .int .i64 0] 68 := (Blk.new _ _ _).drew.later lF) | skip); have hws := (by first | exact hws.trans (lF.mono hws.size) | exact hws.drew.trans (lF.mono hws.size) | exact (hws.alloc hws.size _).trans (lF.mono (hws.alloc hws.size _).size) | exact (hws.alloc hws.size _).drew.trans (lF.mono (hws.alloc hws.size _).size) : Below w1.heap.size w1 w3); have hsz := hws.size; (first | (obtain ⟨z0, z1, z2⟩ := kz.z3; obtain ⟨v0, v1, v2, vl⟩ := kz.c3) | skip)))
  all_goals
    refine then_at ?_
    intro W4 hW4
    first
    | (have hn : Blk W4 w3.heap.size #[.int .u64 a, .int .i64 (x : Int), .int .i64 (y : Int)] 68 := by rw [hW4]; exact Blk.new _ _ _
       have hw4 : Below w1.heap.size w1 W4 := by rw [hW4]; exact hws.alloc hws.size _
       obtain ⟨⟨⟨z0, z1, z2, z3, z4, z5, z6⟩, _, zl⟩, _⟩ := HK.out _ hw4
       obtain ⟨v0, v1, v2, vl⟩ := hn.c3
       clear hW4 hn HK
       go_wp2_with fail
       go_ret
       exact ⟨rfl, B2.out.trans (hw4.mono b2s)⟩)
    | (have hn := kz.set3 (.int .u64 a) (.int .i64 (x : Int)) (.int .i64 (y : Int))
       rw [← hW4] at hn
       have hw4 : Below w1.heap.size w1 W4 := by rw [hW4]; exact ((hws.setCell (by first | (simp; done) | (have := hws.size; simp; omega)) _).setCell (by first | (simp; done) | (have := hws.size; simp; omega)) _).setCell (by first | (simp; done) | (have := hws.size; simp; omega)) _
       obtain ⟨⟨⟨z0, z1, z2, z3, z4, z5, z6⟩, _, zl⟩, _⟩ := HK.out _ hw4
       obtain ⟨v0, v1, v2, vl⟩ := hn.c3
       clear hW4 hn HK
       go_wp2_with fail
       go_ret
       exact ⟨rfl, B2.out.trans (hw4.mono b2s)⟩)
end
end Go.Proofs.Ytjfnhjmdgfkgnaa

