/- run.Between; slices.Contains of pairs. -/
import Derived.Test.YtcapmhmlipmciaaN15
import Derived.Deep.RegionHeld3
namespace Go.Proofs.Ytcapmhmlipmciaa
open Go.RowKit Go.Proofs.Kit
/-- What of a run stands from one pair to another. -/
def betw (l : List Pr) (f t : Pr) : List Pr := if okP l ∧ lt2 f t then (l.drop (plc l f)).take (plc l t - plc l f) else []
theorem plc_mono {l : List Pr} (h : Run l) {f t : Pr} (hft : lt2 f t) : plc l f ≤ plc l t := by
  by_cases c : plc l f ≤ plc l t
  · exact c
  · have hlt : plc l t < l.length := Nat.lt_of_lt_of_le (by omega) (plc_le l f)
    have h1 := (plc_lt h (p := f) hlt).1 (by omega)
    have h2 := (plc_lt h hlt).2 (lt2_trans h1 hft)
    omega
theorem betw_mem {l : List Pr} (h : okP l) {f t : Pr} (hft : lt2 f t) (p : Pr) : p ∈ betw l f t ↔ p ∈ l ∧ ¬ lt2 p f ∧ lt2 p t := by
  rw [betw, if_pos ⟨h, hft⟩]
  constructor
  · intro hm
    obtain ⟨i, hi, rfl⟩ := List.getElem_of_mem hm
    have hi' := hi
    rw [List.length_take, List.length_drop] at hi'
    rw [List.getElem_take, List.getElem_drop]
    have hl : plc l f + i < l.length := by omega
    refine ⟨List.getElem_mem hl, fun q => ?_, (plc_lt h.1 hl).1 (by omega)⟩
    have := (plc_lt h.1 hl).2 q
    omega
  · rintro ⟨hm, h1, h2⟩
    obtain ⟨i, hi, rfl⟩ := List.getElem_of_mem hm
    have e1 : plc l f ≤ i := by
      by_cases c : plc l f ≤ i
      · exact c
      · exact (h1 ((plc_lt h.1 hi).1 (by omega))).elim
    have e2 : i < plc l t := (plc_lt h.1 hi).2 h2
    refine List.mem_iff_getElem.2 ⟨i - plc l f, by rw [List.length_take, List.length_drop]; omega, ?_⟩
    rw [List.getElem_take, List.getElem_drop]
    simp only [show plc l f + (i - plc l f) = i by omega]
theorem betw_no {l : List Pr} {f t : Pr} (h : ¬ (okP l ∧ lt2 f t)) : betw l f t = [] := if_neg h
theorem place_is (v : Value) (l : List Pr) (w : World) (hs : SegP w v l) (hn : l.length ≤ 1048576) (hr : Run l) (p1 p2 : Int) (t : Nat) (ht : t = plc l (p1, p2)) :
    Calls Try.prog 61 #[v, PV p1 p2] w fun e w' => e = .returned (.int .i64 (t : Int)) ∧ Gr w w' := ht ▸ place_any v l w hs hn hr p1 p2
theorem compare_is (a b c d t : Int) (h : cf2 (a, b) (c, d) = t) (W : World) : Calls Try.prog 51 #[PV a b, PV c d] W fun e w' => e = .returned (.int .i64 t) ∧ Gr W w' := h ▸ compare_any a b c d W
/-- The two boxes of Between, and what was there. -/
def BX (w : World) (f1 f2 t1 t2 : Int) (v : Value) (l : List Pr) (w' : World) : Prop := Blk w' w.heap.size #[.int .u64 f1, .int .u64 f2] 36 ∧ Blk w' (w.heap.size + 1) #[.int .u64 t1, .int .u64 t2] 36 ∧ SegP w' v l ∧ Below w.heap.size w w'
section
variable {w w' w'' : World} {f1 f2 t1 t2 : Int} {v : Value} {l : List Pr}
theorem BX.later (h : BX w f1 f2 t1 t2 v l w') (hb : Below w'.heap.size w' w'') : BX w f1 f2 t1 t2 v l w'' := ⟨h.1.later hb, h.2.1.later hb, h.2.2.1.later hb, h.2.2.2.trans (hb.mono h.2.2.2.size)⟩
theorem BX.drew (h : BX w f1 f2 t1 t2 v l w') : BX w f1 f2 t1 t2 v l w'.drew := h.later (Below.refl _ _).drew
theorem BX.seg (h : BX w f1 f2 t1 t2 v l w') : SegP w' v l := h.2.2.1
theorem BX.low (h : BX w f1 f2 t1 t2 v l w') : Below w.heap.size w w' := h.2.2.2
theorem BX.all (h : BX w f1 f2 t1 t2 v l w') : (w'.cell? ⟨w.heap.size, 0, none⟩ = some (.int .u64 f1) ∧ w'.cell? ⟨w.heap.size, 1, none⟩ = some (.int .u64 f2) ∧ w'.cell? ⟨w.heap.size + 1, 0, none⟩ = some (.int .u64 t1) ∧ w'.cell? ⟨w.heap.size + 1, 1, none⟩ = some (.int .u64 t2)) ∧ BX w f1 f2 t1 t2 v l w' := ⟨⟨h.1.cell 0, h.1.cell 1, h.2.1.cell 0, h.2.1.cell 1⟩, h⟩
end
end Go.Proofs.Ytcapmhmlipmciaa

