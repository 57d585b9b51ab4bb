/- The words of a line. -/
import Derived.Test.YtoajaacdhkknfaaDoorX12
namespace Go.Proofs.Kit
open Go.RowKit
theorem ext_lb (s : ByteArray) (a b : Nat) : s.extract a b = lb (((bl s).drop a).take (b - a)) := Lib.extract_eq s a b
theorem ext_end (s : ByteArray) (a : Nat) : s.extract a s.size = lb ((bl s).drop a) := by
  rw [ext_lb, List.take_of_length_le]
  rw [List.length_drop, bl_len]
  omega
def sv (l : List UInt8) : Value := .string (lb l)
theorem drop_cut {L : List UInt8} {f i : Nat} (hf : f ≤ i) (hi : i < L.length) : L.drop f = (L.drop f).take (i - f) ++ L[i] :: L.drop (i + 1) := by
  have h1 : (L.drop f).drop (i - f) = L.drop i := by rw [List.drop_drop]; congr 1; omega
  conv => lhs; rw [← List.take_append_drop (i - f) (L.drop f), h1, List.drop_eq_getElem_cons hi]
theorem take_cut {L : List UInt8} {f i : Nat} (hf : f ≤ i) (hi : i < L.length) : (L.drop f).take (i + 1 - f) = (L.drop f).take (i - f) ++ [L[i]] := by
  have hk : i - f < (L.drop f).length := by rw [List.length_drop]; omega
  rw [show i + 1 - f = (i - f) + 1 by omega, List.take_succ_eq_append_getElem hk]
  simp [show f + (i - f) = i by omega]
/-- Where words stands. -/
structure WordsAt (L : List UInt8) (i f : Nat) (outs : List (List UInt8)) : Prop where
  hf : f ≤ i
  h3 : outs.length ≤ 3
  eq : splitN 3 L = outs ++ splitN (3 - outs.length) (L.drop f)
  no : outs.length < 3 → (32 : UInt8) ∉ (L.drop f).take (i - f)
theorem WordsAt.start (L : List UInt8) : WordsAt L 0 0 [] := ⟨by omega, by simp, by simp, by simp⟩
theorem WordsAt.cut {L : List UInt8} {i f : Nat} {outs : List (List UInt8)} (h : WordsAt L i f outs) (hi : i < L.length) (hc : L[i] = 32) (h3 : outs.length < 3) : WordsAt L (i + 1) (i + 1) (outs ++ [(L.drop f).take (i - f)]) := by
  refine ⟨Nat.le_refl _, by simp; omega, ?_, by simp⟩
  rw [h.eq, drop_cut h.hf hi, hc]
  obtain ⟨m, hm⟩ : ∃ m, 3 - outs.length = m + 1 := ⟨2 - outs.length, by omega⟩
  have hno := h.no h3
  rw [hm, splitN_at m hno]
  simp only [List.length_append, List.length_cons, List.length_nil, List.append_assoc, List.cons_append, List.nil_append]
  rw [show 3 - (outs.length + 1) = m by omega]
  congr 3
  rw [← hc, ← drop_cut h.hf hi]
theorem WordsAt.on {L : List UInt8} {i f : Nat} {outs : List (List UInt8)} (h : WordsAt L i f outs) (hi : i < L.length) (hc : L[i] ≠ 32 ∨ ¬ outs.length < 3) : WordsAt L (i + 1) f outs := by
  refine ⟨by have := h.hf; omega, h.h3, h.eq, fun h3 => ?_⟩
  have hne : L[i] ≠ 32 := hc.resolve_right (fun hn => hn h3)
  rw [take_cut h.hf hi]
  exact no_mem (h.no h3) (by simp; exact fun e => hne e.symm)
theorem WordsAt.fin {L : List UInt8} {f : Nat} {outs : List (List UInt8)} (h : WordsAt L L.length f outs) : splitN 3 L = outs ++ [L.drop f] := by
  rw [h.eq]
  by_cases h3 : outs.length < 3
  · have hno := h.no h3
    rw [List.take_of_length_le (by simp)] at hno
    rw [splitN_no _ hno]
  · have : 3 - outs.length = 0 := by omega
    rw [this, splitN]
end Go.Proofs.Kit
namespace Go.Proofs.YtoajaacdhkknfaaDoor
open Go.RowKit Go.Proofs.Kit Go.Shelf
theorem infoS : ∃ i, Tryd.prog.info? 9 = some i ∧ i.zero = some (.string ⟨#[]⟩) ∧ i.size = 1 ∧ i.bytes = 16 := by
  obtain ⟨i, h, h0, h1, h2⟩ := info_parts (show (Tryd.prog.info? 9).map (fun i => (i.zero, i.size, i.bytes)) = some (some (.string ⟨#[]⟩), 1, 16) by kernel_rfl)
  exact ⟨i, h, h0, h1, h2⟩
set_option maxRecDepth 100000 in
set_option maxHeartbeats 4000000 in
theorem words_any (s : ByteArray) (hs : s.size ≤ 9223372036854775807) (w : World) :
    Calls Tryd.prog 19 #[.string s] w fun e w' => ∃ v', e = .returned v' ∧ Ow 9 w.heap.size w' v' ((splitN 3 (bl s)).map sv) ∧ Below w.heap.size w w' := by
  obtain ⟨i0, hi, hz0, hz1, hz2⟩ := infoS
  go_enter Tryd.func19, Tryd.ntmps19
  go_wp2
  go_loopw [3, 4, 8] (fun s3 s4 s8 wr => ∃ (i f : Nat) (outs : List (List UInt8)), i ≤ s.size ∧ s8 = .int .i64 (i : Int) ∧ s4 = .int .i64 (f : Int) ∧ Hid (WordsAt (bl s) i f outs) ∧ Hid (Ow 9 w.heap.size wr s3 (outs.map sv)) ∧ Hid (Below w.heap.size w wr)) (fun _ _ s8 _ => s.size - (intOf s8).toNat)
  case atStart => exact ⟨0, 0, [], Nat.zero_le _, rfl, rfl, Lib.hid (WordsAt.start _), Lib.hid (Ow.nil _ _ _), Lib.hid (Below.refl _ _)⟩
  case round =>
    obtain ⟨i, f, outs, hle, rfl, rfl, HW, HO, HB⟩ := hrel
    have hfi : f ≤ i := HW.out.hf
    have h3 : outs.length ≤ 3 := HW.out.h3
    obtain ⟨ov, cv, ev⟩ := HO.out.shape
    obtain ⟨m, hm⟩ : ∃ m, m = outs.length := ⟨_, rfl⟩
    rw [List.length_map, ← hm] at ev
    rw [← hm] at h3
    subst ev
    have HM := Lib.hid hm
    clear hm
    have hlt' : w.heap.size ≤ wr.heap.size := HB.out.size
    by_cases hlt : i < s.size
    · have hil : i < (bl s).length := by rw [bl_len]; exact hlt
      have HG := Lib.hid (show (bl s)[i] = s[i] by rw [ByteArray.getElem_eq_getElem_data]; rfl)
      by_cases hc : s[i] = 32
      · have g1 : ((s[i].toNat : Int) == 32) = true := by rw [hc]; rfl
        by_cases hm3 : m < 3
        · have g2 : decide ((m : Int) < 3) = true := by simp; omega
          have HC := Lib.hid (HW.out.cut hil (by rw [HG.out]; exact hc) (by have := HM.out; omega))
          clear hc HG
          go_wp2_with (at_builtin; refine wpList_append_sl rfl _ _ 27 rfl w.heap.size 9 i0 (.string ⟨#[]⟩) 16 Tryd.underlying27 hi hz0 hz1 hz2 rfl _ _ rfl (HO.out.alloc _) _ [.string (s.extract f i)] rfl ?qa ?qb ?qc ?qd ?qe ?_)
          case qa => exact Sl.of_blk (l := [.string (s.extract f i)]) (Blk.new _ _ _) (by simp) (by simp) rfl
          case qb => intro y hy; rw [List.mem_singleton.1 hy]; rfl
          case qc => have := HM.out; simp; omega
          case qd => have := HM.out; simp; omega
          case qe => simp; omega
          intro v3 w3 hO3 hG3
          have HO3 := Lib.hid hO3
          have HB3 := Lib.hid ((HB.out.alloc HB.out.size _).grown hG3 (by simp; omega) (fun g hg => (HO.out.ge g hg).1))
          clear hO3 hG3
          go_wp2
          go_roundw
          case rel =>
            refine ⟨i + 1, i + 1, _, by omega, by go_num, by go_num, HC, Lib.hid ?_, HB3⟩
            have := HO3.out
            rw [ext_lb] at this
            simpa [sv] using this
          case measure => simp [intOf]; omega
        · have g2 : decide ((m : Int) < 3) = false := by simp; omega
          have HC := Lib.hid (HW.out.on hil (.inr (by have := HM.out; omega)))
          clear hc HG
          go_wp2
          go_roundw
          case rel => exact ⟨i + 1, f, outs, by omega, by go_num, rfl, HC, HO, HB⟩
          case measure => simp [intOf]; omega
      · have g1 : ((s[i].toNat : Int) == 32) = false := by
          have : s[i].toNat ≠ 32 := fun e => hc (UInt8.toNat_inj.1 (by rw [e]; rfl))
          simp; omega
        have HC := Lib.hid (HW.out.on hil (.inl (by rw [HG.out]; exact hc)))
        clear hc HG
        go_wp2
        go_roundw
        case rel => exact ⟨i + 1, f, outs, by omega, by go_num, rfl, HC, HO, HB⟩
        case measure => simp [intOf]; omega
    · obtain rfl : i = s.size := by omega
      have HF := Lib.hid (show splitN 3 (bl s) = outs ++ [(bl s).drop f] from WordsAt.fin (by have := HW.out; rwa [← bl_len] at this))
      go_wp2_with (at_builtin; refine wpList_append_sl rfl _ _ 27 rfl w.heap.size 9 i0 (.string ⟨#[]⟩) 16 Tryd.underlying27 hi hz0 hz1 hz2 rfl _ _ rfl (HO.out.alloc _) _ [.string (s.extract f s.size)] rfl ?ra ?rb ?rc ?rd ?re ?_)
      case ra => exact Sl.of_blk (l := [.string (s.extract f s.size)]) (Blk.new _ _ _) (by simp) (by simp) rfl
      case rb => intro y hy; rw [List.mem_singleton.1 hy]; rfl
      case rc => have := HM.out; simp; omega
      case rd => have := HM.out; simp; omega
      case re => simp; omega
      intro v3 w3 hO3 hG3
      have HO3 := Lib.hid hO3
      have HB3 := Lib.hid ((HB.out.alloc HB.out.size _).grown hG3 (by simp; omega) (fun g hg => (HO.out.ge g hg).1))
      clear hO3 hG3
      go_wp2
      go_ret
      refine ⟨_, rfl, ?_, HB3.out⟩
      have := HO3.out
      rw [ext_end] at this
      rw [HF.out]
      simpa [sv] using this
end Go.Proofs.YtoajaacdhkknfaaDoor

