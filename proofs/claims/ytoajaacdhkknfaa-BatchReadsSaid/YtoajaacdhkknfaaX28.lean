/- The reference's Lines. -/
import Derived.Test.YtoajaacdhkknfaaX14
import Derived.Test.YtoajaacdhkknfaaX00
namespace Go.Proofs.Kit
open Go.RowKit
/-- Where Lines stands. -/
structure LinesAt (L : List UInt8) (i f : Nat) (dn : List (List UInt8 × Bool)) : Prop where
  hf : f ≤ i
  hl : dn.length ≤ f
  eq : linesL L = dn ++ linesL (L.drop f)
  no : (10 : UInt8) ∉ (L.drop f).take (i - f)
theorem LinesAt.start (L : List UInt8) : LinesAt L 0 0 [] := ⟨by omega, by simp, by simp, by simp⟩
theorem LinesAt.cut {L : List UInt8} {i f : Nat} {dn : List (List UInt8 × Bool)} (h : LinesAt L i f dn) (hi : i < L.length) (hc : L[i] = 10) : LinesAt L (i + 1) (i + 1) (dn ++ [((L.drop f).take (i - f), true)]) := by
  refine ⟨Nat.le_refl _, by have := h.hl; have := h.hf; simp; omega, ?_, by simp⟩
  rw [h.eq]
  conv => lhs; rw [drop_cut h.hf hi, hc, linesL_at h.no]
  simp
theorem LinesAt.on {L : List UInt8} {i f : Nat} {dn : List (List UInt8 × Bool)} (h : LinesAt L i f dn) (hi : i < L.length) (hc : L[i] ≠ 10) : LinesAt L (i + 1) f dn := by
  refine ⟨by have := h.hf; omega, h.hl, h.eq, ?_⟩
  rw [take_cut h.hf hi]
  exact no_mem h.no (by simp; exact fun e => hc e.symm)
theorem LinesAt.fin {L : List UInt8} {f : Nat} {dn : List (List UInt8 × Bool)} (h : LinesAt L L.length f dn) : (f < L.length → linesL L = dn ++ [(L.drop f, false)]) ∧ (¬ f < L.length → linesL L = dn) := by
  constructor
  · intro hf
    have hno := h.no
    rw [List.take_of_length_le (by simp)] at hno
    rw [h.eq, linesL_no hno (fun e => by have := congrArg List.length e; simp at this; omega)]
  · intro hf
    rw [h.eq, List.drop_eq_nil_of_le (by omega)]
    simp [linesL]
def lv (p : List UInt8 × Bool) : Value := sv (withF p)
end Go.Proofs.Kit
namespace Go.Proofs.Ytoajaacdhkknfaa
open Go.RowKit Go.Proofs.Kit Go.Shelf
set_option maxRecDepth 100000 in
set_option maxHeartbeats 4000000 in
theorem rbLines_any (s : ByteArray) (hs : s.size ≤ 100000) (w : World) :
    Calls Try.prog 36 #[.string s] w fun e w' => ∃ v', e = .returned v' ∧ Ow 9 w.heap.size w' v' ((linesL (bl s)).map lv) ∧ Below w.heap.size w w' := by
  obtain ⟨i0, hi, hz0, hz1, hz2⟩ := infoS
  go_enter Try.func36, Try.ntmps36
  go_wp2
  go_loopw [3, 4, 8] (fun s3 s4 s8 wr => ∃ (i f : Nat) (dn : List (List UInt8 × Bool)), i ≤ s.size ∧ s8 = .int .i64 (i : Int) ∧ s4 = .int .i64 (f : Int) ∧ Hid (LinesAt (bl s) i f dn) ∧ Hid (Ow 9 w.heap.size wr s3 (dn.map lv)) ∧ Hid (Below w.heap.size w wr)) (fun _ _ s8 _ => s.size - (intOf s8).toNat)
  case atStart => exact ⟨0, 0, [], Nat.zero_le _, rfl, rfl, Lib.hid (LinesAt.start _), Lib.hid (Ow.nil _ _ _), Lib.hid (Below.refl _ _)⟩
  case round =>
    obtain ⟨i, f, dn, hle, rfl, rfl, HW, HO, HB⟩ := hrel
    have hfi : f ≤ i := HW.out.hf
    have h3 : dn.length ≤ f := HW.out.hl
    obtain ⟨ov, cv, ev⟩ := HO.out.shape
    obtain ⟨m, hm⟩ : ∃ m, m = dn.length := ⟨_, rfl⟩
    rw [List.length_map, ← hm] at ev
    rw [← hm] at h3
    subst ev
    have HM := Lib.hid hm
    clear hm
    have hlt' : w.heap.size ≤ wr.heap.size := HB.out.size
    by_cases hlt : i < s.size
    · have hil : i < (bl s).length := by rw [bl_len]; exact hlt
      have HG := Lib.hid (show (bl s)[i] = s[i] by rw [ByteArray.getElem_eq_getElem_data]; rfl)
      by_cases hc : s[i] = 10
      · have g1 : ((s[i].toNat : Int) == 10) = true := by rw [hc]; rfl
        have HC := Lib.hid (HW.out.cut hil (by rw [HG.out]; exact hc))
        have HT := Lib.hid (show lb (withF (((bl s).drop f).take (i - f), true)) = s.extract f (i + 1) by
          rw [ext_lb, take_cut hfi hil, HG.out, hc]
          rfl)
        clear hc HG
        go_wp2_with (at_builtin; refine wpList_append_sl rfl _ _ 23 rfl w.heap.size 9 i0 (.string ⟨#[]⟩) 16 Try.underlying23 hi hz0 hz1 hz2 rfl _ _ rfl (HO.out.alloc _) _ [.string (s.extract f (i + 1))] rfl ?qa ?qb ?qc ?qd ?qe ?_)
        case qa => exact Sl.of_blk (l := [.string (s.extract f (i + 1))]) (Blk.new _ _ _) (by simp) (by simp) rfl
        case qb => intro y hy; rw [List.mem_singleton.1 hy]; rfl
        case qc => have := HM.out; simp; omega
        case qd => have := HM.out; simp; omega
        case qe => simp; omega
        intro v3 w3 hO3 hG3
        have HO3 := Lib.hid hO3
        have HB3 := Lib.hid ((HB.out.alloc HB.out.size _).grown hG3 (by simp; omega) (fun g hg => (HO.out.ge g hg).1))
        clear hO3 hG3
        go_wp2
        go_roundw
        case rel =>
          refine ⟨i + 1, i + 1, _, by omega, by go_num, by go_num, HC, Lib.hid ?_, HB3⟩
          have := HO3.out
          rw [← HT.out] at this
          simpa [lv, sv] using this
        case measure => simp [intOf]; omega
      · have g1 : ((s[i].toNat : Int) == 10) = false := by
          have : s[i].toNat ≠ 10 := fun e => hc (UInt8.toNat_inj.1 (by rw [e]; rfl))
          simp; omega
        have HC := Lib.hid (HW.out.on hil (by rw [HG.out]; exact hc))
        clear hc HG
        go_wp2
        go_roundw
        case rel => exact ⟨i + 1, f, dn, by omega, by go_num, rfl, HC, HO, HB⟩
        case measure => simp [intOf]; omega
    · obtain rfl : i = s.size := by omega
      have hfin := LinesAt.fin (by have := HW.out; rwa [← bl_len] at this)
      rw [bl_len] at hfin
      by_cases hff : f < s.size
      · have e1 : decide ((f : Int) < (s.size : Int)) = true := by simp; omega
        have HF := Lib.hid (hfin.1 hff)
        clear hfin
        go_wp2_with (at_builtin; refine wpList_append_sl rfl _ _ 23 rfl w.heap.size 9 i0 (.string ⟨#[]⟩) 16 Try.underlying23 hi hz0 hz1 hz2 rfl _ _ rfl (HO.out.alloc _) _ [.string (s.extract f s.size)] rfl ?ra ?rb ?rc ?rd ?re ?_)
        case ra => exact Sl.of_blk (l := [.string (s.extract f s.size)]) (Blk.new _ _ _) (by simp) (by simp) rfl
        case rb => intro y hy; rw [List.mem_singleton.1 hy]; rfl
        case rc => have := HM.out; simp; omega
        case rd => have := HM.out; simp; omega
        case re => simp; omega
        intro v3 w3 hO3 hG3
        have HO3 := Lib.hid hO3
        have HB3 := Lib.hid ((HB.out.alloc HB.out.size _).grown hG3 (by simp; omega) (fun g hg => (HO.out.ge g hg).1))
        clear hO3 hG3
        go_wp2
        go_ret
        refine ⟨_, rfl, ?_, HB3.out⟩
        have := HO3.out
        rw [ext_end] at this
        rw [HF.out]
        simpa [lv, sv, withF] using this
      · have e1 : decide ((f : Int) < (s.size : Int)) = false := by simp; omega
        have HF := Lib.hid (hfin.2 hff)
        clear hfin
        go_wp2
        go_ret
        refine ⟨_, rfl, ?_, HB.out⟩
        rw [HF.out]
        exact HO.out
end Go.Proofs.Ytoajaacdhkknfaa

