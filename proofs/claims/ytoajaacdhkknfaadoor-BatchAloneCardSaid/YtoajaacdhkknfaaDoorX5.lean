/- Check. -/
import Derived.Test.YtoajaacdhkknfaaDoorX4k
import Derived.Deep.DeepCutAuto
namespace Go.Proofs.Kit
open Go.RowKit
/-- The error of a change. -/
def codeC (b : Bool) : Int := if b then 0 else 190
theorem then_w {K : Act → World → Prop} {R : Exit → Act → World → Prop} {a : Act} {W : World} (h : ∀ W', W' = W → Exit.then K R .normal a W') : Exit.then K R .normal a W := h W rfl
theorem KindsAt.other {B g : Nat} {w : World} (h : KindsAt B w) (hg : g ≤ B) (i : Nat) (u : Value) : KindsAt B (w.setCell ⟨g, i, none⟩ u) := fun k h1 h8 =>
  ((But.refl g w).set i u).seg (h k h1 h8) (fun b hb e => by simp [hasV, Value.ownBlock] at hb; omega)
/-- Texts as long as may come in. -/
def Fits (c : Chg) : Prop := c.key.size ≤ 9223372036854775807 ∧ c.name.size ≤ 9223372036854775807 ∧ c.val.size ≤ 9223372036854775807 ∧ c.to.size ≤ 9223372036854775807
theorem Fits.part {c : Chg} (h : Fits c) (p : Nat) : (c.part p).size ≤ 9223372036854775807 := by
  obtain ⟨h1, h2, h3, h4⟩ := h
  unfold Chg.part
  split
  · exact h1
  · split
    · exact h2
    · split
      · exact h3
      · exact h4
theorem right_of {k : Nat} {key name val dst : ByteArray} (h1 : 1 ≤ k) (h8 : k ≤ 8) (h : ∀ p, p < 4 → partOk k p ((Chg.mk k key name val dst).part p) = true) : rightB ⟨k, key, name, val, dst⟩ = true := by
  have a0 := h 0 (by omega)
  have a1 := h 1 (by omega)
  have a2 := h 2 (by omega)
  have a3 := h 3 (by omega)
  simp only [Chg.part] at a0 a1 a2 a3
  simp at a0 a1 a2 a3
  simp [rightB, kindB, a0, a1, a2, a3]
  omega
theorem wrong_of {k : Nat} {key name val dst : ByteArray} {p : Nat} (hp : p < 4) (h : partOk k p ((Chg.mk k key name val dst).part p) = false) : rightB ⟨k, key, name, val, dst⟩ = false := by
  rcases (by omega : p = 0 ∨ p = 1 ∨ p = 2 ∨ p = 3) with rfl | rfl | rfl | rfl <;> simp [Chg.part] at h <;> simp [rightB, h]
end Go.Proofs.Kit
namespace Go.Proofs.YtoajaacdhkknfaaDoor
open Go.RowKit Go.Proofs.Kit Go.Shelf
theorem infoKind : ∃ i, Tryd.prog.info? 59 = some i ∧ i.size = 2 := by
  have h : (Tryd.prog.info? 59).map (·.size) = some 2 := by kernel_rfl
  cases hi : Tryd.prog.info? 59 with
  | none => rw [hi] at h; cases h
  | some i => exact ⟨i, rfl, by rw [hi] at h; simpa using h⟩
theorem kinds_at (k n : Nat) (h1 : 1 ≤ k) (h8 : k ≤ 8) (hn : (hasL k).length = n) (w : World) : Calls Tryd.prog 30 #[] w fun e w' => ∃ A B, e = .returned (.agg A) ∧ (∀ w, (Instr.index 76 (.agg A) (.int .i64 (k : Int))).run Tryd.prog w = .ok (.agg #[.string (lb (wordN k)), .slice (some ⟨B + k, 0, none⟩) n n]) w) ∧ KindsAt B w' ∧ w.heap.size ≤ B ∧ Gr w w' := by
  refine (kinds_any w).mono ?_
  rintro e w' ⟨rfl, hk, hg⟩
  obtain ⟨i, hi, hs⟩ := infoKind
  refine ⟨_, _, rfl, fun W => ?_, hk, Nat.le_refl _, hg⟩
  rw [run_index_struct (sz := 2) _ k W Tryd.underlying76 Tryd.underlying59 hi hs (by omega), KA_at _ k h1 h8, hasV, hn]
theorem index4 (a b c d : ByteArray) (j : Nat) (hj : j < 4) (k : Int) (w : World) : (Instr.index 78 (.agg #[.string a, .string b, .string c, .string d]) (.int .i64 (j : Int))).run Tryd.prog w = .ok (.string ((Chg.mk k a b c d).part j)) w := by
  rcases (by omega : j = 0 ∨ j = 1 ∨ j = 2 ∨ j = 3) with rfl | rfl | rfl | rfl <;> kernel_rfl
set_option maxRecDepth 100000 in
set_option maxHeartbeats 8000000 in
theorem check_no (ck : Int) (key name val dst : ByteArray) (w : World) (h : kindB ck = false) :
    Calls Tryd.prog 15 #[CV ⟨ck, key, name, val, dst⟩] w fun e w' => e = .returned (.int .i64 190) ∧ Below w.heap.size w w' := by
  have HC := Lib.hid (fun W => biskind_any ck W)
  rw [h] at HC
  clear h
  go_enter Tryd.func15, Tryd.ntmps15
  go_wp2_with fail
  refine (HC.out _).mono ?_
  rintro e w' ⟨rfl, rfl⟩
  go_wp2
  go_ret
  exact ⟨rfl, (Gr.alloc _ _).below⟩
set_option maxRecDepth 100000 in
set_option maxHeartbeats 8000000 in
theorem check_yes (k : Nat) (key name val dst : ByteArray) (hf : Fits ⟨k, key, name, val, dst⟩) (w : World) (h1 : 1 ≤ k) (h8 : k ≤ 8) :
    Calls Tryd.prog 15 #[CV ⟨k, key, name, val, dst⟩] w fun e w' => e = .returned (.int .i64 (codeC (rightB ⟨k, key, name, val, dst⟩))) ∧ Below w.heap.size w w' := by
  have HC := Lib.hid (fun W => biskind_any (k : Int) W)
  rw [show kindB (k : Int) = true by simp [kindB]; omega] at HC
  obtain ⟨n, hn⟩ : ∃ n, n = (hasL k).length := ⟨_, rfl⟩
  have HK := Lib.hid (fun W => kinds_at k n h1 h8 hn.symm W)
  have HA := Lib.hid (fun B W (g : KindsAt B W) (j : Nat) (hj : j < 4) => allows_any B k h1 h8 (lb (wordN k)) j hj _ (hf.part j) W g)
  simp only [hasV, ← hn] at HA
  have HX := Lib.hid (fun (j : Nat) (hj : j < 4) w => index4 key name val dst j hj k w)
  obtain ⟨u, hu⟩ : ∃ u, u = lb (wordN k) := ⟨_, rfl⟩
  rw [← hu] at HK HA
  have H8 := Lib.hid (And.intro h1 h8)
  clear hn hu hf h1 h8
  go_enter Tryd.func15, Tryd.ntmps15
  go_wp2_with fail
  refine (HC.out _).mono ?_
  rintro e w' ⟨rfl, rfl⟩
  obtain ⟨W1, hW1⟩ : ∃ W1, W1 = w.alloc (.cells #[.int .i64 (k : Int), .string key, .string name, .string val, .string dst] 31) := ⟨_, rfl⟩
  have b1 : Blk W1 w.heap.size #[.int .i64 (k : Int), .string key, .string name, .string val, .string dst] 31 := by rw [hW1]; exact Blk.new _ _ _
  have g1 : Gr w W1 := by rw [hW1]; exact Gr.alloc _ _
  rw [← hW1]
  clear hW1 HC
  have HB1 := Lib.hid b1
  go_upto_region 3 with (fail)
  go_cut [3] (fun s3 wc => Hid (∃ g B, s3 = .pointer (some ⟨g, 0, none⟩) ∧ Blk wc g #[.string u, .slice (some ⟨B + k, 0, none⟩) n n] 59 ∧ KindsAt B wc) ∧ Hid (Below W1.heap.size W1 wc))
  case first =>
   have e0 := b1.cell 0
   simp only [List.getElem?_toArray, List.getElem?_cons_zero] at e0
   have hws : Below W1.heap.size W1 W1 := Below.refl _ _
   have HKP := Lib.hid (fun W' (h : Below W1.heap.size W1 W') => And.intro ((b1.later h).cell 0) h)
   have G1 := Lib.hid g1.below
   have lb1 := b1.lt
   clear b1 g1
   go_region_held3 (fun w' => w'.cell? ⟨w.heap.size, 0, none⟩ = some (.int .i64 (k : Int)) ∧ Below W1.heap.size W1 w')
     (first | exact HKP.out _ hws | exact HKP.out _ hws.drew | exact HKP.out _ (hws.alloc hws.size _) | exact HKP.out _ (hws.drew.alloc hws.size _) | exact HKP.out _ (hws.alloc hws.size _).drew | exact HKP.out _ ((hws.setCell (by first | (simp; done) | (have := hws.size; simp; omega)) _).setCell (by first | (simp; done) | (have := hws.size; simp; omega)) _))
     ((go_at_call 30; (with_reducible refine (HK.out _).mono ?_); rintro e w3 ⟨A, B, rfl, hix, hK, hBs, hg⟩; (first | (have kz : Blk w3 W1.heap.size #[.string ⟨#[]⟩, .slice none 0 0] 59 := (Blk.new W1 _ _).drew.gr hg; obtain ⟨z0, z1⟩ := And.intro (kz.frozen 0) (kz.frozen 1); obtain ⟨y0, y1, yl⟩ := kz.two) | skip); have hws := (by first | exact hws.drew.trans (hg.below.mono hws.size) | exact (hws.alloc hws.size _).drew.trans (hg.below.mono (hws.alloc hws.size _).size) : Below W1.heap.size W1 w3); have HKA := Lib.hid hK; clear hK hg))
   all_goals
     refine then_w ?_
     intro W4 hW4
     (first
       | (have hn : Blk W4 w3.heap.size #[.string u, .slice (some ⟨B + k, 0, none⟩) n n] 59 := by rw [hW4]; exact Blk.new _ _ _)
       | (have hn : Blk W4 W1.heap.size #[.string u, .slice (some ⟨B + k, 0, none⟩) n n] 59 := by rw [hW4]; have := (kz.set 0 (.string u)).set 1 (.slice (some ⟨B + k, 0, none⟩) n n); simpa using this))
     have hk4 : KindsAt B W4 := by
       rw [hW4]
       first
         | exact HKA.out.later (Gr.alloc _ _).below
         | exact (HKA.out.other (by have := hBs; simp at this; omega) _ _).other (by have := hBs; simp at this; omega) _ _
     have hw4 : Below W1.heap.size W1 W4 := by
       rw [hW4]
       first
         | exact hws.alloc hws.size _
         | exact (hws.setCell (Nat.le_refl _) _).setCell (Nat.le_refl _) _
     clear hW4 hws HKA
     go_wp2
     go_meet
     exact ⟨Lib.hid ⟨_, B, rfl, hn, hk4⟩, Lib.hid hw4⟩
  case rest =>
   obtain ⟨h1, h2⟩ := hcut
   obtain ⟨g, B, rfl, hb3, hk3⟩ := h1.out
   obtain ⟨wd, rfl⟩ : ∃ x : World, x = wc := ⟨_, rfl⟩
   have bc := HB1.out.later h2.out
   obtain ⟨e0, e1, e2, e3, e4⟩ : wd.cell? ⟨w.heap.size, 0, none⟩ = some (.int .i64 (k : Int)) ∧ wd.cell? ⟨w.heap.size, 1, none⟩ = some (.string key) ∧ wd.cell? ⟨w.heap.size, 2, none⟩ = some (.string name) ∧ wd.cell? ⟨w.heap.size, 3, none⟩ = some (.string val) ∧ wd.cell? ⟨w.heap.size, 4, none⟩ = some (.string dst) := ⟨bc.cell 0, bc.cell 1, bc.cell 2, bc.cell 3, bc.cell 4⟩
   have lc := bc.lt
   have HB3 := Lib.hid hb3
   have HK3 := Lib.hid hk3
   have G2 := Lib.hid (g1.below.trans (h2.out.mono g1.below.size))
   clear h1 h2 bc b1 g1 hb3 hk3 HB1 HK
   go_wp2_with fail
   refine (partsOf_any ⟨k, key, name, val, dst⟩ _).mono ?_
   rintro e w5 ⟨rfl, g5⟩
   have HB5 := Lib.hid (HB3.out.gr g5)
   have HK5 := Lib.hid (HK3.out.later g5.below)
   have G5 := Lib.hid (G2.out.trans (g5.below.mono G2.out.size))
   clear e0 e1 e2 e3 e4 lc HB3 HK3 G2 g5
   go_wp2
   go_loopw [16] (fun s16 wr => ∃ j : Nat, j ≤ 4 ∧ s16 = .int .i64 (j : Int) ∧ Hid (∀ p, p < j → partOk k p ((Chg.mk k key name val dst).part p) = true) ∧ Hid (Gr w5 wr)) (fun s16 _ => 4 - (intOf s16).toNat)
   case atStart => exact ⟨0, by omega, rfl, Lib.hid fun p hp => by omega, Lib.hid (Gr.refl _)⟩
   case round =>
    obtain ⟨j, hj, rfl, HP, HG⟩ := hrel
    by_cases hlt : j < 4
    · have hix := HX.out j hlt
      have hp : ∃ s, s = (Chg.mk k key name val dst).part j := ⟨_, rfl⟩
      obtain ⟨s, hs⟩ := hp
      rw [← hs] at hix
      have HAJ := Lib.hid (fun W (g : Gr wr W) => HA.out B W (HK5.out.later (HG.out.trans g).below) j hlt)
      rw [← hs] at HAJ
      have HS := Lib.hid hs
      clear hs
      obtain ⟨f0, f1, lf⟩ := (HB5.out.gr HG.out).two
      by_cases ho : partOk k j s = true
      · rw [ho] at HAJ
        have HO := Lib.hid ho
        clear ho
        go_wp2_with fail
        refine (HAJ.out _ (Gr.refl _)).mono ?_
        rintro e w6 ⟨rfl, g6⟩
        go_wp2
        go_roundw
        case rel =>
          refine ⟨j + 1, by omega, by go_num, Lib.hid fun p hp => ?_, Lib.hid (HG.out.trans g6)⟩
          by_cases e : p = j
          · subst e
            rw [← HS.out]
            exact HO.out
          · exact HP.out p (by omega)
        case measure => simp [intOf]; omega
      · have ho : partOk k j s = false := by simpa using ho
        rw [ho] at HAJ
        rw [HS.out] at ho
        have HF := Lib.hid (wrong_of hlt ho)
        clear ho
        go_wp2_with fail
        refine (HAJ.out _ (Gr.refl _)).mono ?_
        rintro e w6 ⟨rfl, g6⟩
        go_wp2
        go_ret
        refine ⟨?_, below_gr (below_gr G5.out HG.out G5.out.size) g6 (Nat.le_trans G5.out.size HG.out.below.size)⟩
        rw [HF.out]
        rfl
    · obtain rfl : j = 4 := by omega
      have HT := Lib.hid (right_of H8.out.1 H8.out.2 HP.out)
      go_wp2
      go_ret
      refine ⟨?_, below_gr G5.out HG.out G5.out.size⟩
      rw [HT.out]
      rfl
theorem check_any (c : Chg) (hf : Fits c) (w : World) : Calls Tryd.prog 15 #[CV c] w fun e w' => e = .returned (.int .i64 (codeC (rightB c))) ∧ Below w.heap.size w w' := by
  obtain ⟨ck, key, name, val, dst⟩ := c
  by_cases h : kindB ck = true
  · simp [kindB] at h
    obtain ⟨k, rfl⟩ : ∃ k : Nat, ck = k := ⟨ck.toNat, by omega⟩
    exact check_yes k key name val dst hf w (by omega) (by omega)
  · have h : kindB ck = false := by simpa using h
    have hr : rightB ⟨ck, key, name, val, dst⟩ = false := by simp [rightB, h]
    rw [hr]
    exact check_no ck key name val dst w h
end Go.Proofs.YtoajaacdhkknfaaDoor

