/- DictMay: which dictionaries, and names, may be. -/
import Derived.Test.YtmghbejbdkoehaaK17
import Derived.Test.YtmghbejbdkoehaaK18
import Derived.Test.YtmghbejbdkoehaaK20
import Derived.Test.YtmghbejbdkoehaaK23
import Derived.Test.YtmghbejbdkoehaaTw
import Derived.Deep.CutBlock
import Derived.Deep.RegionHeldLaw
import Derived.Lib.MinMax
namespace Go.Proofs.Kit
open Go.RowKit
/-- The ten cells of a dictionary, and those of the one behind it. -/
theorem dcells_at {w : World} {g : Nat} {a b : Nat → Value} {t : TypeId} {w0 : World} (h : Blk w0 g (dcs a b) t) (hb : Below w0.heap.size w0 w) :
    w.cell? ⟨g, 0, none⟩ = some (a 0) ∧ w.cell? ⟨g, 1, none⟩ = some (b 0) ∧ w.cell? ⟨g, 2, none⟩ = some (a 1) ∧ w.cell? ⟨g, 3, none⟩ = some (b 1) ∧ w.cell? ⟨g, 4, none⟩ = some (a 2) ∧ w.cell? ⟨g, 5, none⟩ = some (b 2) ∧ w.cell? ⟨g, 6, none⟩ = some (a 3) ∧ w.cell? ⟨g, 7, none⟩ = some (b 3) ∧ w.cell? ⟨g, 8, none⟩ = some (a 4) ∧ w.cell? ⟨g, 9, none⟩ = some (b 4) :=
  dcells (h.later hb)
theorem bal {w w' : World} (h : Below w.heap.size w w') (o : Obj) : Below w.heap.size w (w'.alloc o) := h.alloc h.size o
theorem bdr {w w' : World} (h : Below w.heap.size w w') : Below w.heap.size w w'.drew := h.drew
theorem butR_dsets (w : World) (g : Nat) (x y : Nat → Value) : ButR (fun b => b = g) w (dsets w g x y) := by
  unfold dsets
  have h := ButR.refl (fun b => b = g) w
  iterate 10 (refine ButR.set ?_ _ _ (fun _ => rfl))
  exact h
theorem DOw.butR {ts ti : TypeId} {B : Nat} {w w' : World} {a b : Nat → Value} {T : Nat → List ByteArray} {S : Nat → List Int} (h : DOw ts ti B w a b T S) {g : Nat} {vs : Array Value} {t : TypeId} (hk : Blk w g vs t) (h1 : ts ≠ t) (h2 : ti ≠ t)
    (hr : ButR (fun b => b = g) w w') : DOw ts ti B w' a b T S := fun k =>
  ⟨hr.ow (h k).1 fun _ hx e => (h k).1.ne_blk hk h1 (e ▸ hx), hr.ow (h k).2 fun _ hx e => (h k).2.ne_blk hk h2 (e ▸ hx)⟩
end Go.Proofs.Kit
namespace Go.Proofs.Ytmghbejbdkoehaa
open Go.RowKit Go.Proofs.Kit Go.Shelf

theorem DArg.later {w w' : World} {a b : Nat → Value} {T : Nat → List ByteArray} {S : Nat → List Int} (h : DArg w a b T S) (g : Below w.heap.size w w') : DArg w' a b T S :=
  ⟨fun k => by obtain ⟨o, c, e, h1, h2, h3⟩ := h.t k; exact ⟨o, c, e, h1, h2, h3.later g⟩, fun k => by obtain ⟨o, c, e, h1, h2, h3⟩ := h.s k; exact ⟨o, c, e, h1, h2, h3.later g⟩⟩
def aggA : Value → Array Value
  | .agg cs => cs
  | _ => #[]
theorem infoDict : (Try.prog.info? 28).map (·.size) = some 10 := by kernel_rfl
theorem load_dict {w : World} {g : Nat} {a b : Nat → Value} (h : Blk w g (dcs a b) 28) : (Instr.loadAt 28 (.pointer (some ⟨g, 0, none⟩))).run Try.prog w = .ok (.agg (dcs a b)) w := by
  refine run_loadAt_mid w g 0 28 (dcs a b).toList _ (fun j v hv => ?_) Try.underlying28 rfl infoDict
  rw [h.cell]
  simpa using hv
theorem store_dict {w : World} {g : Nat} {a b A B : Nat → Value} (h : Blk w g (dcs a b) 28) (hA : ∀ k, ∃ o m c, A k = .slice o m c) (hB : ∀ k, ∃ o m c, B k = .slice o m c) :
    (Instr.storeAt 28 (.pointer (some ⟨g, 0, none⟩)) (.agg (dcs A B))).run Try.prog w = .ok () (dsets w g A B) := by
  have hc := dcells h
  rw [run_storeAt_mid w g 0 28 (dcs A B) ?_ infoDict ?_]
  · rfl
  · intro j hj
    have hj' : j < 10 := hj
    refine ⟨?_, by rw [h.frozen]⟩
    rw [h.cell]
    simp only [dcs, Nat.zero_add]
    simp [hj']
  · have fa : ∀ k, (A k).oneCell' = true := fun k => by obtain ⟨o, m, c, e⟩ := hA k; rw [e]; rfl
    have fb : ∀ k, (B k).oneCell' = true := fun k => by obtain ⟨o, m, c, e⟩ := hB k; rw [e]; rfl
    simp [dcs, fa, fb]
theorem alloc_dict (w : World) : (Instr.alloc 28 true (.tuple #[])).run Try.prog w = .ok (.pointer (some ⟨w.heap.size, 0, none⟩)) (w.alloc (.cells (dcs (fun _ => nilV) (fun _ => nilV)) 28)) := by
  go_simp
  rfl
theorem call_own6 (x : Act) (t : Tmp) (s : String) (af : Array Edge) (v : Value) (d : Option Tmp) (h : x.eval (.tmp t) = v) (w : World) :
    (execOp x.eval { dst := d, op := .call { callee := .value (.func 11), args := #[.tmp t], argTypes := #[28] }, type := 28, pos := s, after := af, guard := none }).run Try.prog w = .ok (.enter 11 #[v]) w := by
  subst h
  have e : x.eval (.func 11) = .func (.func 11) #[] #[] := rfl
  unfold execOp
  go_simp
set_option maxRecDepth 100000 in
set_option maxHeartbeats 4000000 in
theorem may6_true (a b a' b' : Nat → Value) (T T' : Nat → List ByteArray) (S S' : Nat → List Int) (o : Option Addr) (n c : Nat) (tx : List ByteArray) (w : World) (hx : DArg w a b T S) (hz : ∀ k, ∀ s ∈ T k, s.size ≤ 9223372036854775807)
    (hy : DArg w a' b' T' S') (hz' : ∀ k, ∀ s ∈ T' k, s.size ≤ 9223372036854775807) (hn : tx.length = n) (hnm : n ≤ 9223372036854775807) (ht : ArgV w o c (tx.map Value.string)) (htz : ∀ s ∈ tx, s.size ≤ 9223372036854775807) :
    Calls Try.prog 3 #[.agg (dcs a b), .agg (dcs a' b'), .slice o n c] w fun e w' => e = .returned (.bool true) ∧ Below w.heap.size w w' := by
  have hmix := mixed
  have HX := Lib.hid hx
  have HY := Lib.hid hy
  have LIM := Lib.hid (own_lim (S := S) hz)
  have LIM' := Lib.hid (own_lim (S := S') hz')
  have HT := Lib.hid ht
  have HTZ := Lib.hid htz
  have HN := Lib.hid hn
  clear hx hy hz hz' ht htz hn
  simp only [dcs]
  obtain ⟨X0, hX0⟩ : ∃ X0, X0 = (w.alloc (.cells (dcs a b) 28)).alloc (.cells (dcs a' b') 28) := ⟨_, rfl⟩
  have e0 : (w.alloc (.cells #[a 0, b 0, a 1, b 1, a 2, b 2, a 3, b 3, a 4, b 4] 28)).alloc (.cells #[a' 0, b' 0, a' 1, b' 1, a' 2, b' 2, a' 3, b' 3, a' 4, b' 4] 28) = X0 := hX0.symm
  have k0 : Blk X0 w.heap.size (dcs a b) 28 := by rw [hX0]; exact (Blk.new _ _ _).alloc _
  have k1 : Blk X0 (w.heap.size + 1) (dcs a' b') 28 := by rw [hX0]; have := Blk.new (w.alloc (.cells (dcs a b) 28)) (dcs a' b') 28; simpa using this
  have g0 : Below w.heap.size w X0 := by rw [hX0]; exact ((Gr.alloc _ _).trans (Gr.alloc _ _)).below
  clear hX0
  go_enter Try.func3, Try.ntmps3
  go_wp2_with fail
  refine (wakes6_any X0).mono ?_
  rintro e w1 ⟨rfl, h1⟩
  have K0 := Lib.hid (k0.later h1)
  have K1 := Lib.hid (k1.later h1)
  have B1 := Lib.hid (g0.trans (h1.mono g0.size))
  clear e0 k0 k1 g0 h1
  have HX1 := Lib.hid (HX.out.later B1.out)
  have HY1 := Lib.hid (HY.out.later B1.out)
  go_upto_region 3 with (fail)
  go_cut [7, 8] from 17 to 20 (fun s7 s8 wd => ∃ p q A B A' B', s7 = .pointer (some ⟨p, 0, none⟩) ∧ s8 = .pointer (some ⟨q, 0, none⟩) ∧ Hid (Blk wd p (dcs A B) 28) ∧ Hid (Blk wd q (dcs A' B') 28) ∧
    Hid (DOw 9 3 w1.heap.size wd A B (fst (cutT T) 5) (fst (cutS6 S) 5)) ∧ Hid (DOw 9 3 w1.heap.size wd A' B' (fst (cutT T') 5) (fst (cutS6 S') 5)) ∧ Hid (Below w1.heap.size w1 wd))
  case first =>
    have cc := call_own6
    have aa := alloc_dict
    clear HX HY LIM LIM' HT HTZ HN B1
    refine two_boxes hmix aggA (fun v w' => ∃ A B, v = .agg (dcs A B) ∧ DOw 9 3 w1.heap.size w' A B (fst (cutT T) 5) (fst (cutS6 S) 5)) (fun v w' => ∃ A B, v = .agg (dcs A B) ∧ DOw 9 3 w1.heap.size w' A B (fst (cutT T') 5) (fst (cutS6 S') 5))
      (d17 := 17) (d18 := 18) (d19 := 19) (d20 := 20) (d7 := 7) (d8 := 8) (t3 := 3) (t4 := 4) (ty := 28) (f := 11) (vx := .agg (dcs a b)) (vy := .agg (dcs a' b')) (z := dcs (fun _ => nilV) (fun _ => nilV))
      (by decide) (fun t ht => by have : t ≤ 20 := by simp at ht; omega
                                  exact Nat.lt_of_le_of_lt this (by simp)) (by decide) (by decide) ⟨rfl, rfl, rfl, by kernel_rfl⟩ ⟨rfl, rfl, by kernel_rfl, by kernel_rfl⟩ ⟨rfl, rfl, rfl, by kernel_rfl⟩ ⟨rfl, rfl, by kernel_rfl, by kernel_rfl⟩
      ⟨rfl, rfl, rfl, by kernel_rfl⟩ ⟨rfl, rfl, rfl, by kernel_rfl⟩ ⟨rfl, rfl, rfl, by kernel_rfl, by kernel_rfl⟩ ⟨rfl, rfl, rfl, by kernel_rfl, by kernel_rfl⟩
      (fun w' hb => load_dict (K0.out.later hb)) (fun w' hb => load_dict (K1.out.later hb)) (fun ρ h w' => cc ρ _ _ _ _ _ h w') (fun ρ h w' => cc ρ _ _ _ _ _ h w') ?_ ?_ aa ?_ ?_ ?_ ?_ ?_ ?_ ?_
    · exact fun w' hb => (own6_any a b T S w' (HX1.out.later hb)).mono fun e wb ⟨A, B, h1, h2, h3⟩ => ⟨_, h1, ⟨A, B, rfl, h2.mono hb.size⟩, h3⟩
    · exact fun w' hb => (own6_any a' b' T' S' w' (HY1.out.later hb)).mono fun e wb ⟨A, B, h1, h2, h3⟩ => ⟨_, h1, ⟨A, B, rfl, h2.mono hb.size⟩, h3⟩
    · rintro v w' w'' ⟨A, B, h1, h2⟩ hb; exact ⟨A, B, h1, h2.later hb⟩
    · rintro v w' w'' ⟨A, B, h1, h2⟩ hb; exact ⟨A, B, h1, h2.later hb⟩
    · rintro v w' w'' p c ⟨A, B, h1, h2⟩ hk hb; exact ⟨A, B, h1, h2.butR hk (by decide) (by decide) hb⟩
    · rintro v w' w'' p c ⟨A, B, h1, h2⟩ hk hb; exact ⟨A, B, h1, h2.butR hk (by decide) (by decide) hb⟩
    · rintro v w' p ⟨A, B, rfl, h2⟩ hk; exact ⟨_, store_dict hk h2.slA.1 h2.slA.2, dsets_blk hk A B, butR_dsets _ _ A B⟩
    · rintro v w' p ⟨A, B, rfl, h2⟩ hk; exact ⟨_, store_dict hk h2.slA.1 h2.slA.2, dsets_blk hk A B, butR_dsets _ _ A B⟩
    · rintro v1 v2 p q w' ⟨A, B, rfl, h1⟩ ⟨A', B', rfl, h2⟩ hp hq hpq hp1 hq1 hb
      go_wp2
      go_meet
      exact ⟨p, q, A, B, A', B', rfl, rfl, Lib.hid hp, Lib.hid hq, Lib.hid h1, Lib.hid h2, Lib.hid hb⟩
  case rest =>
    obtain ⟨p, q, A, B, A', B', rfl, rfl, KP, KQ, OA, OB, BC⟩ := hcut
    obtain ⟨T1, hT1⟩ : ∃ T1, T1 = fst (cutT T) 5 := ⟨_, rfl⟩
    obtain ⟨S1, hS1⟩ : ∃ S1, S1 = fst (cutS6 S) 5 := ⟨_, rfl⟩
    obtain ⟨T2, hT2⟩ : ∃ T2, T2 = fst (cutT T') 5 := ⟨_, rfl⟩
    obtain ⟨S2, hS2⟩ : ∃ S2, S2 = fst (cutS6 S') 5 := ⟨_, rfl⟩
    have DT := Lib.hid hT1
    have DS := Lib.hid hS1
    rw [← hT1, ← hS1] at OA LIM
    rw [← hT2, ← hS2] at OB LIM'
    clear hT1 hS1 hT2 hS2
    obtain ⟨r, hr⟩ : ∃ r : Bool, r = true ↔ DGood hsh T1 S1 := by
      by_cases h : DGood hsh T1 S1
      · exact ⟨true, by simp [h]⟩
      · exact ⟨false, by simp [h]⟩
    obtain ⟨ee, hee, her⟩ : ∃ e : Int, ((DGood hsh T1 S1 ∧ e = 0) ∨ (¬ DGood hsh T1 S1 ∧ e = 160)) ∧ ((r = true ∧ e = 0) ∨ (r = false ∧ e = 160)) := by
      by_cases h : DGood hsh T1 S1
      · exact ⟨0, .inl ⟨h, rfl⟩, .inl ⟨hr.2 h, rfl⟩⟩
      · refine ⟨160, .inr ⟨h, rfl⟩, .inr ⟨?_, rfl⟩⟩
        cases r with
        | false => rfl
        | true => exact (h (hr.1 rfl)).elim
    have HR := Lib.hid hr
    have HE := Lib.hid hee
    have HER := Lib.hid her
    clear hr hee her
    obtain ⟨c0, c1, c2, c3, c4, c5, c6, c7, c8, c9⟩ := dcells KP.out
    go_wp2_with fail
    clear c0 c1 c2 c3 c4 c5 c6 c7 c8 c9
    refine (eright_any A B T1 S1 _ OA.out.sl LIM.out r HR.out).mono ?_
    rintro e w2 ⟨rfl, h2⟩
    have KP2 := Lib.hid (KP.out.later h2)
    have KQ2 := Lib.hid (KQ.out.later h2)
    have OA2 := Lib.hid (OA.out.later h2)
    have OB2 := Lib.hid (OB.out.later h2)
    have BC2 := Lib.hid (BC.out.trans (h2.mono BC.out.size))
    clear KP KQ OA OB BC h2
    obtain ⟨c0, c1, c2, c3, c4, c5, c6, c7, c8, c9⟩ := dcells KP2.out
    go_wp2_with fail
    clear c0 c1 c2 c3 c4 c5 c6 c7 c8 c9
    refine (dcheck_any A B T1 S1 _ OA2.out.sl LIM.out ee HE.out).mono ?_
    rintro e w3 ⟨rfl, h3⟩
    have KP3 := Lib.hid (KP2.out.later h3)
    have KQ3 := Lib.hid (KQ2.out.later h3)
    have OA3 := Lib.hid (OA2.out.later h3)
    have OB3 := Lib.hid (OB2.out.later h3)
    have BC3 := Lib.hid (BC2.out.trans (h3.mono BC2.out.size))
    clear KP2 KQ2 OA2 OB2 BC2 h3
    go_upto_region 6 with (fail)
    go_cut [47] from 25 to 46 (fun s47 wd => s47 = .bool false ∧ Hid (Below w3.heap.size w3 wd))
    case first =>
      have bc : Below w3.heap.size w3 w3 := Below.refl _ _
      have DC := Lib.hid (fun w' (hb : Below w3.heap.size w3 w') => And.intro (dcells_at KP3.out hb) (dcells_at KQ3.out hb))
      obtain ⟨sm, hsm⟩ : ∃ sm : Bool, sm = true ↔ ∀ k, k < 5 → T1 k = T2 k := by
        by_cases h : ∀ k, k < 5 → T1 k = T2 k
        · exact ⟨true, by simpa using h⟩
        · exact ⟨false, by simpa using h⟩
      have f1 := fun w' (hb : Below w3.heap.size w3 w') => (dsame_any A B A' B' T1 T2 S1 S2 w' (OA3.out.later hb).sl (OB3.out.later hb).sl sm hsm).mono (R' := fun e wb => e = .returned (.bool sm) ∧ Below w3.heap.size w3 wb) fun e wb ⟨h1, h2⟩ => ⟨h1, hb.trans (h2.mono hb.size)⟩
      have f2 := fun w' (hb : Below w3.heap.size w3 w') => (eof_any A B OA3.out.slA.1 OA3.out.slA.2 w').mono (R' := fun e wb => e = .returned (.agg (nms A)) ∧ Below w3.heap.size w3 wb) fun e wb ⟨h1, h2⟩ => ⟨h1, hb.trans (h2.mono hb.size)⟩
      have f3 := fun w' (hb : Below w3.heap.size w3 w') => (eof_any A' B' OB3.out.slA.1 OB3.out.slA.2 w').mono (R' := fun e wb => e = .returned (.agg (nms A')) ∧ Below w3.heap.size w3 wb) fun e wb ⟨h1, h2⟩ => ⟨h1, hb.trans (h2.mono hb.size)⟩
      have f4 := fun w' (hb : Below w3.heap.size w3 w') => (esame_any A A' T1 T2 w' (fun k => ((OA3.out.later hb).sl k).1) (fun k => ((OB3.out.later hb).sl k).1) sm hsm).mono (R' := fun e wb => e = .returned (.bool sm) ∧ Below w3.heap.size w3 wb) fun e wb ⟨h1, h2⟩ => ⟨h1, hb.trans (h2.mono hb.size)⟩
      simp only [dcs, nms] at f1 f2 f3 f4
      have F1 := Lib.hid f1
      have F2 := Lib.hid f2
      have F3 := Lib.hid f3
      have F4 := Lib.hid f4
      clear f1 f2 f3 f4 hsm KP3 KQ3 OA3 OB3 BC3 HX HY LIM LIM' HT HTZ HN B1 HX1 HY1 K0 K1 HR HE DT DS
      obtain ⟨rfl, rfl⟩ | ⟨rfl, rfl⟩ := HER.out
      all_goals
        first | go_region_held_law (fun w' => (w'.cell? ⟨p, 0, none⟩ = some (A 0) ∧ w'.cell? ⟨p, 1, none⟩ = some (B 0) ∧ w'.cell? ⟨p, 2, none⟩ = some (A 1) ∧ w'.cell? ⟨p, 3, none⟩ = some (B 1) ∧ w'.cell? ⟨p, 4, none⟩ = some (A 2) ∧ w'.cell? ⟨p, 5, none⟩ = some (B 2) ∧ w'.cell? ⟨p, 6, none⟩ = some (A 3) ∧ w'.cell? ⟨p, 7, none⟩ = some (B 3) ∧ w'.cell? ⟨p, 8, none⟩ = some (A 4) ∧ w'.cell? ⟨p, 9, none⟩ = some (B 4)) ∧ (w'.cell? ⟨q, 0, none⟩ = some (A' 0) ∧ w'.cell? ⟨q, 1, none⟩ = some (B' 0) ∧ w'.cell? ⟨q, 2, none⟩ = some (A' 1) ∧ w'.cell? ⟨q, 3, none⟩ = some (B' 1) ∧ w'.cell? ⟨q, 4, none⟩ = some (A' 2) ∧ w'.cell? ⟨q, 5, none⟩ = some (B' 2) ∧ w'.cell? ⟨q, 6, none⟩ = some (A' 3) ∧ w'.cell? ⟨q, 7, none⟩ = some (B' 3) ∧ w'.cell? ⟨q, 8, none⟩ = some (A' 4) ∧ w'.cell? ⟨q, 9, none⟩ = some (B' 4)))
          (first | exact DC.out _ bc | exact DC.out _ (bdr bc))
          (first | (go_at_call 14; (with_reducible refine (F1.out _ (by first | exact bc | exact bdr bc)).mono ?_); rintro e wb ⟨rfl, bc⟩) | (go_at_call 16; (with_reducible refine (F2.out _ (by first | exact bc | exact bdr bc)).mono ?_); rintro e wb ⟨rfl, bc⟩) | (go_at_call 16; (with_reducible refine (F3.out _ (by first | exact bc | exact bdr bc)).mono ?_); rintro e wb ⟨rfl, bc⟩) | (go_at_call 15; (with_reducible refine (F4.out _ (by first | exact bc | exact bdr bc)).mono ?_); rintro e wb ⟨rfl, bc⟩)) | fail
        all_goals
          go_wp2
          go_meet
          exact ⟨by simp, Lib.hid bc⟩
    case rest =>
      obtain ⟨rfl, HB⟩ := hcut
      have KP4 := Lib.hid (KP3.out.later HB.out)
      have OA4 := Lib.hid (OA3.out.later HB.out)
      have BC4 := Lib.hid (BC3.out.trans (HB.out.mono BC3.out.size))
      clear KP3 KQ3 OA3 OB3 BC3 HB LIM' HR HE HER
      obtain ⟨W4, rfl⟩ : ∃ x : World, x = wc := ⟨_, rfl⟩
      go_upto_block 0 with fail
      go_cut [50] (fun _ wx => Hid (Below W4.heap.size W4 wx))
      case first =>
        clear HX1 HY1 LIM DT DS KP4 OA4 K0 K1 HX HY
        go_wp2
        go_loopw [11, 12, 13, 50] (fun _ _ _ i wr => ∃ k : Nat, k ≤ n ∧ i = .int .i64 (k : Int) ∧ Hid (Below W4.heap.size W4 wr)) (fun _ _ _ i _ => n - (intOf i).toNat)
        case atStart => exact ⟨0, Nat.zero_le _, rfl, Lib.hid (Below.refl _ _)⟩
        case round =>
          obtain ⟨k, hk, rfl, HB⟩ := hrel
          by_cases hkn : k < n
          · have hkl : k < tx.length := by have := HN.out; omega
            rcases HT.out with ⟨_, h, _⟩ | ⟨ab, rfl, hcX⟩
            · have : tx = [] := by simpa using h
              rw [this] at hkl; simp at hkl
            · have bbr : Below w.heap.size w wr := (B1.out.trans (BC4.out.mono B1.out.size)).trans (HB.out.mono (B1.out.trans (BC4.out.mono B1.out.size)).size)
              have d := (bbr.cell (World.block_lt_of_cell? _ _ (hcX k (by simpa using hkl)))).trans (hcX k (by simpa using hkl))
              rw [List.getElem_map] at d
              have hsz := HTZ.out _ (List.getElem_mem hkl)
              obtain ⟨s, hs⟩ : ∃ s, s = tx[k] := ⟨_, rfl⟩
              rw [← hs] at d hsz
              clear hs hcX bbr
              by_cases h8 : k = 8
              · have h8' : ((k : Int) == 8) = true := by simp; omega
                clear h8
                go_wp2
                go_meet
                exact HB
              · have h8' : ((k : Int) == 8) = false := by simp; omega
                clear h8
                go_upto_region 12 with fail
                go_cut [12] from 57 to 61 (fun s12 wd => s12 = .string (cutS s) ∧ wd = wr)
                case first =>
                  go_wp2
                  go_meet
                  exact ⟨by unfold cutS; rw [show (min (s.size : Int) 60).toNat = min s.size 60 by omega], rfl⟩
                case rest =>
                  obtain ⟨rfl, hwc⟩ := hcut
                  subst hwc
                  obtain ⟨s', hs'⟩ : ∃ s', s' = cutS s := ⟨_, rfl⟩
                  have hs9 : s'.size ≤ 9223372036854775807 := by have := cutS_size s; rw [hs']; omega
                  rw [← hs']
                  clear hs' d hsz
                  go_wp2
                  go_loopw [13] (fun i wr => ∃ j : Int, -1 ≤ j ∧ j ≤ 6 ∧ i = .int .i64 j ∧ Hid (Below W4.heap.size W4 wr)) (fun i _ => (6 - intOf i).toNat)
                  case atStart => exact ⟨-1, by omega, by omega, rfl, HB⟩
                  case round =>
                    obtain ⟨j, hj1, hj6, rfl, HB2⟩ := hrel
                    by_cases hj5 : j ≤ 5
                    · have g5 : decide (j ≤ 5) = true := by simp; omega
                      obtain ⟨mb, hmb⟩ : ∃ mb, mb = mayB j s' := ⟨_, rfl⟩
                      have hne : (mb != mb) = false := by simp
                      have m1 := may_any j s' hs9
                      have m2 := emay_any j s' hs9
                      rw [← hmb] at m1 m2
                      clear hmb
                      go_wp2_with (first | (go_at_call 17; refine (m1 _).mono ?_; rintro e w5 ⟨rfl, g6⟩) | (go_at_call 18; refine (m2 _).mono ?_; rintro e w6 ⟨rfl, h6⟩; subst h6))
                      go_roundw
                      case rel => exact ⟨j + 1, by omega, by omega, by go_num, Lib.hid (HB2.out.trans (g6.mono HB2.out.size))⟩
                      case measure => simp [intOf]; omega
                    · have g5 : decide (j ≤ 5) = false := by simp; omega
                      go_wp2
                      go_roundw
                      case rel => exact ⟨k + 1, by omega, by go_num, HB2⟩
                      case measure => simp [intOf]; omega
          · go_wp2
            go_meet
            exact HB
      case rest =>
        rename Hid (Below W4.heap.size W4 _) => HB5
        obtain ⟨W5, rfl⟩ : ∃ x : World, x = wc := ⟨_, rfl⟩
        have KP5 := Lib.hid (KP4.out.later HB5.out)
        have OA5 := Lib.hid (OA4.out.later HB5.out)
        have BC5 := Lib.hid (BC4.out.trans (HB5.out.mono BC4.out.size))
        clear KP4 OA4 BC4 HB5
        go_wp2_with fail
        refine (dnew_any W5).mono ?_
        rintro e W6 ⟨N, M, rfl, hO, h6⟩
        obtain ⟨X6, hX6⟩ : ∃ X6, X6 = W6.alloc (.cells (dcs N M) 28) := ⟨_, rfl⟩
        have eX6 : W6.alloc (.cells #[N 0, M 0, N 1, M 1, N 2, M 2, N 3, M 3, N 4, M 4] 28) = X6 := hX6.symm
        have k6 : Blk X6 W6.heap.size (dcs N M) 28 := by rw [hX6]; exact Blk.new _ _ _
        have g6 : Below W6.heap.size W6 X6 := by rw [hX6]; exact (Gr.alloc _ _).below
        obtain ⟨sa, sb⟩ := hO.slA
        have hsa := fun k w p m => st_slice (P := Try.prog) sa k w p m
        have hsb := fun k w p m => st_slice (P := Try.prog) sb k w p m
        have KN := Lib.hid k6
        have ON := Lib.hid (hO.later g6)
        have g56 := h6.trans (g6.mono h6.size)
        have KP6 := Lib.hid (KP5.out.later g56)
        have OA6 := Lib.hid (OA5.out.later g56)
        have BC6 := Lib.hid (BC5.out.trans (g56.mono BC5.out.size))
        have K06 := Lib.hid (K0.out.later BC6.out)
        have HX6 := Lib.hid (HX1.out.later BC6.out)
        clear hX6 k6 g6 hO sa sb h6 g56 KP5 OA5 BC5 K0 K1 HX HY HX1 HY1 HT HTZ HN
        simp only [dcs]
        go_upto_region 20 with fail
        clear eX6 hsa hsb
        have bc : Below X6.heap.size X6 X6 := Below.refl _ _
        have DC := Lib.hid (fun w' (hb : Below X6.heap.size X6 w') => And.intro (dcells_at KN.out hb) (And.intro (dcells_at KP6.out hb) (dcells_at K06.out hb)))
        have lim0 : DLim (fun _ => []) newS := ⟨fun k => by simp, fun k => by unfold newS; split <;> simp, fun k => by simp⟩
        have good0 : DGood hsh (fun _ => []) newS := dgood_iff.2 fun k hk => ⟨by unfold newS; rw [if_pos hk]; exact good_new, by simp, by simp⟩
        have f1 := fun w' (hb : Below X6.heap.size X6 w') => (eright_any N M _ newS w' (ON.out.later hb).sl lim0 true (by simp [good0])).mono (R' := fun e wb => e = .returned (.bool true) ∧ Below X6.heap.size X6 wb) fun e wb ⟨h1, h2⟩ => ⟨h1, hb.trans (h2.mono hb.size)⟩
        have f2 := fun w' (hb : Below X6.heap.size X6 w') => (eof_any N M ON.out.slA.1 ON.out.slA.2 w').mono (R' := fun e wb => e = .returned (.agg (nms N)) ∧ Below X6.heap.size X6 wb) fun e wb ⟨h1, h2⟩ => ⟨h1, hb.trans (h2.mono hb.size)⟩
        have f3 := fun w' (hb : Below X6.heap.size X6 w') => (esame_any N (fun _ => nilV) (fun _ => []) (fun _ => []) w' (fun k => ((ON.out.later hb).sl k).1) (fun _ => Sl.nil _) true (by simp)).mono (R' := fun e wb => e = .returned (.bool true) ∧ Below X6.heap.size X6 wb) fun e wb ⟨h1, h2⟩ => ⟨h1, hb.trans (h2.mono hb.size)⟩
        have f4 := fun w' (hb : Below X6.heap.size X6 w') => (own6_any a b T S w' (HX6.out.later hb)).mono (R' := fun e wb => ∃ C D, e = .returned (.agg (dcs C D)) ∧ Below X6.heap.size X6 wb ∧ DOw 9 3 w'.heap.size wb C D T1 S1) fun e wb ⟨C, D, h1, h2, h3⟩ => ⟨C, D, h1, hb.trans (h3.mono hb.size), by rw [DT.out, DS.out]; exact h2⟩
        have f5 := fun B w' (hb : Below X6.heap.size X6 w') C D (hO : DOw 9 3 B w' C D T1 S1) => (same6_any A _ C D T1 T1 S1 S1 w' (OA6.out.later hb).sl hO.sl true (by simp)).mono (R' := fun e wb => e = .returned (.bool true) ∧ Below X6.heap.size X6 wb) fun e wb ⟨h1, h2⟩ => ⟨h1, hb.trans (h2.mono hb.size)⟩
        simp only [dcs, nms, nilV] at f1 f2 f3 f4 f5
        have F1 := Lib.hid f1
        have F2 := Lib.hid f2
        have F3 := Lib.hid f3
        have F4 := Lib.hid f4
        have F5 := Lib.hid f5
        have BB := Lib.hid (B1.out.trans (BC6.out.mono B1.out.size))
        clear f1 f2 f3 f4 f5 lim0 good0 KN KP6 K06 ON OA6 HX6 BC6 B1 LIM DT DS
        first
          | go_region_held3 (fun w' => (w'.cell? ⟨W6.heap.size, 0, none⟩ = some (N 0) ∧ w'.cell? ⟨W6.heap.size, 1, none⟩ = some (M 0) ∧ w'.cell? ⟨W6.heap.size, 2, none⟩ = some (N 1) ∧ w'.cell? ⟨W6.heap.size, 3, none⟩ = some (M 1) ∧ w'.cell? ⟨W6.heap.size, 4, none⟩ = some (N 2) ∧ w'.cell? ⟨W6.heap.size, 5, none⟩ = some (M 2) ∧ w'.cell? ⟨W6.heap.size, 6, none⟩ = some (N 3) ∧ w'.cell? ⟨W6.heap.size, 7, none⟩ = some (M 3) ∧ w'.cell? ⟨W6.heap.size, 8, none⟩ = some (N 4) ∧ w'.cell? ⟨W6.heap.size, 9, none⟩ = some (M 4)) ∧ (w'.cell? ⟨p, 0, none⟩ = some (A 0) ∧ w'.cell? ⟨p, 1, none⟩ = some (B 0) ∧ w'.cell? ⟨p, 2, none⟩ = some (A 1) ∧ w'.cell? ⟨p, 3, none⟩ = some (B 1) ∧ w'.cell? ⟨p, 4, none⟩ = some (A 2) ∧ w'.cell? ⟨p, 5, none⟩ = some (B 2) ∧ w'.cell? ⟨p, 6, none⟩ = some (A 3) ∧ w'.cell? ⟨p, 7, none⟩ = some (B 3) ∧ w'.cell? ⟨p, 8, none⟩ = some (A 4) ∧ w'.cell? ⟨p, 9, none⟩ = some (B 4)) ∧ (w'.cell? ⟨w.heap.size, 0, none⟩ = some (a 0) ∧ w'.cell? ⟨w.heap.size, 1, none⟩ = some (b 0) ∧ w'.cell? ⟨w.heap.size, 2, none⟩ = some (a 1) ∧ w'.cell? ⟨w.heap.size, 3, none⟩ = some (b 1) ∧ w'.cell? ⟨w.heap.size, 4, none⟩ = some (a 2) ∧ w'.cell? ⟨w.heap.size, 5, none⟩ = some (b 2) ∧ w'.cell? ⟨w.heap.size, 6, none⟩ = some (a 3) ∧ w'.cell? ⟨w.heap.size, 7, none⟩ = some (b 3) ∧ w'.cell? ⟨w.heap.size, 8, none⟩ = some (a 4) ∧ w'.cell? ⟨w.heap.size, 9, none⟩ = some (b 4)))
              (first | exact DC.out _ bc | exact DC.out _ (bdr bc))
              (first | (go_at_call 12; (with_reducible refine (F1.out _ (by first | exact bc | exact bdr bc)).mono ?_); rintro e wb ⟨rfl, bc⟩) | (go_at_call 16; (with_reducible refine (F2.out _ (by first | exact bc | exact bdr bc)).mono ?_); rintro e wb ⟨rfl, bc⟩) | (go_at_call 15; (with_reducible refine (F3.out _ (by first | exact bc | exact bdr bc)).mono ?_); rintro e wb ⟨rfl, bc⟩) | (go_at_call 11; (with_reducible refine (F4.out _ (by first | exact bc | exact bdr bc)).mono ?_); rintro e wb ⟨C, D, rfl, bc, hO⟩) | (go_at_call 20; (with_reducible refine (F5.out _ _ bc C D hO).mono ?_); rintro e wb ⟨rfl, bc⟩))
          | fail
        go_wp2
        go_ret
        exact ⟨rfl, BB.out.trans (bc.mono BB.out.size)⟩
end Go.Proofs.Ytmghbejbdkoehaa

