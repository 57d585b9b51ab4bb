/- What a law cuts its changes to: few. -/
import Derived.Test.YtoajaacdhkknfaaX10
namespace Go.Proofs.Kit
open Go.RowKit
def fewC (l : List Chg) : List Chg := (l.take 80).map cutC
theorem fewC_len (l : List Chg) : (fewC l).length ≤ 80 := by simp [fewC]; omega
theorem fewC_fits {l : List Chg} : ∀ x ∈ fewC l, Fits x ∧ x.key.size ≤ 60 ∧ x.name.size ≤ 60 ∧ x.val.size ≤ 60 ∧ x.to.size ≤ 60 := by
  intro x hx
  obtain ⟨y, _, rfl⟩ := List.mem_map.1 hx
  have h1 := cutS_size 60 y.key
  have h2 := cutS_size 60 y.name
  have h3 := cutS_size 60 y.val
  have h4 := cutS_size 60 y.to
  refine ⟨⟨?_, ?_, ?_, ?_⟩, h1, h2, h3, h4⟩ <;> simp only [cutC] <;> omega
theorem add_pos (a : Addr) (m j : Nat) (hj : j ≠ 0) : a.add (m + j) = ⟨(a.add m).block, (a.add m).off + j, none⟩ := by
  unfold Addr.add
  by_cases hm : m = 0
  · subst hm
    simp [hj]
  · simp [hm, Nat.add_assoc]
theorem arg_cells {w : World} {a : Addr} {l : List Chg} (h : ∀ i (h : i < l.length) j u, (cc l[i])[j]? = some u → w.cell? (a.add (i * 5 + j)) = some u) (i : Nat) (hi : i < l.length) :
    w.cell? (a.add (i * 5)) = some (.int .i64 l[i].kind) ∧ w.cell? ⟨(a.add (i * 5)).block, (a.add (i * 5)).off + 1, none⟩ = some (.string l[i].key) ∧ w.cell? ⟨(a.add (i * 5)).block, (a.add (i * 5)).off + 2, none⟩ = some (.string l[i].name) ∧ w.cell? ⟨(a.add (i * 5)).block, (a.add (i * 5)).off + 3, none⟩ = some (.string l[i].val) ∧ w.cell? ⟨(a.add (i * 5)).block, (a.add (i * 5)).off + 4, none⟩ = some (.string l[i].to) := by
  refine ⟨h i hi 0 _ rfl, ?_, ?_, ?_, ?_⟩
  · rw [← add_pos a _ 1 (by decide)]; exact h i hi 1 _ rfl
  · rw [← add_pos a _ 2 (by decide)]; exact h i hi 2 _ rfl
  · rw [← add_pos a _ 3 (by decide)]; exact h i hi 3 _ rfl
  · rw [← add_pos a _ 4 (by decide)]; exact h i hi 4 _ rfl
end Go.Proofs.Kit
namespace Go.Proofs.Ytoajaacdhkknfaa
open Go.RowKit Go.Proofs.Kit Go.Shelf
theorem infoC : ∃ i, Try.prog.info? 27 = some i ∧ i.zero = some (CV Chg.zero) ∧ i.size = 5 ∧ i.bytes = 72 := by
  obtain ⟨i, h, h0, h1, h2⟩ := info_parts (show (Try.prog.info? 27).map (fun i => (i.zero, i.size, i.bytes)) = some (some (CV Chg.zero), 5, 72) by kernel_rfl)
  exact ⟨i, h, h0, h1, h2⟩
set_option maxRecDepth 100000 in
set_option maxHeartbeats 4000000 in
theorem few9_any (o : Option Addr) (n c : Nat) (l : List Chg) (w : World) (hl : l.length = n) (hc : n ≤ c) (hm : c ≤ 9223372036854775807) (h : ArgE chgE w o c l) (hf : ∀ x ∈ l, Fits x) :
    Calls Try.prog 9 #[.slice o n c] w fun e w' => ∃ v', e = .returned v' ∧ OwnE chgE 27 w.heap.size w' v' (fewC l) ∧ Below w.heap.size w w' := by
  have HL := Lib.hid hl; clear hl
  have HA := Lib.hid h; clear h
  have HF := Lib.hid hf; clear hf
  obtain ⟨i0, hi, hz0, hz1, hz2⟩ := infoC
  go_enter Try.func9, Try.ntmps9
  go_wp2
  go_loopw [3, 8] (fun s3 s8 wr => ∃ k : Nat, k ≤ n ∧ s8 = .int .i64 (k : Int) ∧ Hid (OwnE chgE 27 w.heap.size wr s3 (fewC (l.take k))) ∧ Hid (Below w.heap.size w wr)) (fun _ s8 _ => n - (intOf s8).toNat)
  case atStart => exact ⟨0, Nat.zero_le _, rfl, Lib.hid (OwnE.nil _ _ _ _), Lib.hid (Below.refl _ _)⟩
  case round =>
    obtain ⟨k, hk, rfl, HO, HB⟩ := hrel
    by_cases hlt : k < n
    · have hkl : k < l.length := by have := HL.out; omega
      obtain ⟨x, hx⟩ : ∃ x, x = l[k] := ⟨_, rfl⟩
      have hfx : Fits x := by rw [hx]; exact HF.out _ (List.getElem_mem hkl)
      obtain ⟨a, rfl, ha⟩ := (HA.out.later HB.out).resolve_left (fun e => by rw [e.2.1] at hkl; simp at hkl)
      obtain ⟨d0, d1, d2, d3, d4⟩ := arg_cells ha k hkl
      rw [← hx] at d0 d1 d2 d3 d4
      have HT := Lib.hid (show l.take (k + 1) = l.take k ++ [x] by rw [hx]; exact List.take_succ_eq_append_getElem hkl)
      clear hx ha hkl
      obtain ⟨x0, x1, x2, x3, x4⟩ := x
      obtain ⟨f1, f2, f3, f4⟩ := hfx
      simp only at d0 d1 d2 d3 d4 f1 f2 f3 f4
      by_cases h80 : k < 80
      · have HC := Lib.hid (fun W => cut9_any x0 x1 x2 x3 x4 f1 f2 f3 f4 W)
        clear f1 f2 f3 f4
        go_wp2_with fail
        refine (HC.out _).mono ?_
        rintro e w2 ⟨rfl, b2⟩
        obtain ⟨y, hy⟩ : ∃ y, y = cutC ⟨x0, x1, x2, x3, x4⟩ := ⟨_, rfl⟩
        rw [← hy]
        have HY := Lib.hid hy
        clear hy
        obtain ⟨y0, y1, y2, y3, y4⟩ := y
        have gA := (Gr.alloc wr (.cells #[.int .i64 x0, .string x1, .string x2, .string x3, .string x4] 27)).below
        have HB2 := Lib.hid (below_later (below_later HB.out gA) b2)
        have HO2 := Lib.hid ((HO.out.later gA).later b2)
        have hlt2 : w.heap.size ≤ (w2.alloc (.cells #[.int .i64 y0, .string y1, .string y2, .string y3, .string y4] 27)).heap.size := by have := HB2.out.size; simp; omega
        have HLT := Lib.hid hlt2
        have hlen := Lib.hid (fewC_len (l.take k))
        obtain ⟨ov, cv, ev⟩ := HO2.out.shape
        obtain ⟨nv, hnv⟩ : ∃ nv, nv = (fewC (l.take k)).length := ⟨_, rfl⟩
        rw [← hnv] at ev
        subst ev
        clear hnv gA b2 hlt2 d0 d1 d2 d3 d4 HO HB
        go_wp2_with (at_builtin; refine wpList_append_segE (E := chgE) rfl _ _ 22 rfl w.heap.size 27 i0 (CV Chg.zero) 72 Try.underlying22 hi hz0 hz1 hz2 rfl _ _ rfl (HO2.out.alloc _) _ [⟨y0, y1, y2, y3, y4⟩] rfl ?qm ?q1 ?q2 HLT.out ?_)
        case qm => exact SegE.of_blk (E := chgE) (l := [⟨y0, y1, y2, y3, y4⟩]) (cap := 1) (Blk.new _ _ _) (by simp) (by decide) rfl
        case q1 => have h1 := hlen.out; show (_ + 1) * 5 ≤ _; omega
        case q2 => have h1 := hlen.out; show (_ + 1) * 72 ≤ _; omega
        intro v' w3 hO3 hb3 _
        go_wp2
        go_roundw
        case rel =>
          refine ⟨k + 1, by omega, by go_num, Lib.hid ?_, Lib.hid ((HB2.out.alloc HB2.out.size _).trans hb3)⟩
          have : fewC (l.take (k + 1)) = fewC (l.take k) ++ [⟨y0, y1, y2, y3, y4⟩] := by
            rw [HT.out, HY.out, fewC, fewC, List.take_append, List.map_append]
            have h1 : (l.take k).length ≤ k := List.length_take_le _ _
            rw [List.take_of_length_le (l := [_]) (by simp; omega)]
            rfl
          rw [this]
          exact hO3
        case measure => simp [intOf]; omega
      · clear f1 f2 f3 f4
        go_wp2
        go_roundw
        case rel =>
          have gA := (Gr.alloc wr (.cells #[.int .i64 x0, .string x1, .string x2, .string x3, .string x4] 27)).below
          refine ⟨k + 1, by omega, by go_num, Lib.hid ?_, Lib.hid (below_later HB.out gA)⟩
          have : fewC (l.take (k + 1)) = fewC (l.take k) := by
            simp only [fewC, List.take_take]
            rw [Nat.min_eq_left (by omega), Nat.min_eq_left (by omega)]
          rw [this]
          exact HO.out.later gA
        case measure => simp [intOf]; omega
    · have HT := Lib.hid (show l.take k = l from List.take_of_length_le (by have := HL.out; omega))
      go_wp2
      go_ret
      rw [HT.out] at HO
      exact ⟨_, rfl, HO.out, HB.out⟩
end Go.Proofs.Ytoajaacdhkknfaa

