/- dict.Bytes: how names stand in bytes. -/
import Derived.Test.YtmghbejbdkoehaaK13
import Derived.Test.YtmghbejbdkoehaaMn
import Derived.Test.YtmghbejbdkoehaaMh
namespace Go.Proofs.Kit
open Go.RowKit
/-- What lies while bytes are laid behind others. -/
structure LJ (tb te : TypeId) (w0 w : World) (ob : Nat) (vo : Value) (v : Value) (pre : List Int) (W : World) : Prop where
  k : Blk W ob #[v] tb
  o : Ow te w0.heap.size W v (pre.map (Value.int .u8))
  b : ButR (fun b => b = ob ∨ vo.ownBlock = some b) w W
  own : ∀ g, v.ownBlock = some g → g < w.heap.size → vo.ownBlock = some g
  low : Below w0.heap.size w0 W
section
variable {tb te : TypeId} {w0 w W W' : World} {ob : Nat} {vo v : Value} {pre : List Int}
theorem LJ.later (h : LJ tb te w0 w ob vo v pre W) (g : Below W.heap.size W W') : LJ tb te w0 w ob vo v pre W' := ⟨h.k.later g, h.o.later g, h.b.later g, h.own, h.low.trans (g.mono h.low.size)⟩
theorem LJ.add {v3 : Value} {add : List Int} {w3 : World} (h : LJ tb te w0 w ob vo v pre W) (hO : Ow te w0.heap.size w3 v3 ((pre ++ add).map (Value.int .u8))) (hG : W.grownBy w3 v.ownBlock) (hW : v3.ownBlock = v.ownBlock ∨ v3.ownBlock = some W.heap.size) (ht : te ≠ tb) (hob : w0.heap.size ≤ ob) :
    LJ tb te w0 w ob vo v3 (pre ++ add) (w3.setCell ⟨ob, 0, none⟩ v3) := by
  have hne : v.ownBlock ≠ some ob := h.o.ne_blk h.k ht
  have k3 : Blk w3 ob #[v] tb := (hG.block ob h.k.lt (fun e => hne e.symm)).trans h.k
  have hne3 : v3.ownBlock ≠ some ob := hO.ne_blk k3 ht
  refine ⟨k3.set 0 v3, hO.same fun g hg => Below.heap_setCell _ _ _ _ (fun e => hne3 (by rw [hg, e])), ?_, ?_, ?_⟩
  · exact (h.b.grown hG (fun g hg hgl => .inr (h.own g hg hgl))).set _ _ (fun _ => .inl rfl)
  · intro g hg hgl
    rcases hW with hW | hW
    · exact h.own g (by rw [← hW]; exact hg) hgl
    · rw [hW] at hg
      injection hg with hg
      have := h.b.size
      omega
  · exact (h.low.grown hG h.low.size (fun g hg => (h.o.lt g hg).1)).setCell hob _
end
end Go.Proofs.Kit
namespace Go.Proofs.Ytmghbejbdkoehaa
open Go.RowKit Go.Proofs.Kit Go.Shelf

/-- The bytes of names of a kind. -/
def bytesL (l : List ByteArray) : List Int := sept l.length ++ l.flatMap fun s => bytesText (strB s)
theorem bytesText_len {l : List Int} (h : l.length ≤ 4000) : (bytesText l).length ≤ 4010 := by
  unfold bytesText
  rw [List.length_append]
  have := sept_ten (n := l.length) (by omega)
  omega
theorem flat_len (l : List ByteArray) (h : ∀ s ∈ l, s.size ≤ 4000) : (l.flatMap fun s => bytesText (strB s)).length ≤ 4010 * l.length := by
  induction l with
  | nil => simp
  | cons s t ih =>
    have h1 := ih (fun x hx => h x (by simp [hx]))
    have h2 := bytesText_len (l := strB s) (by rw [strB_len]; exact h s (by simp))
    simp only [List.flatMap_cons, List.length_append, List.length_cons]
    omega
theorem bytesL_len (l : List ByteArray) (h : ∀ s ∈ l, s.size ≤ 4000) (hl : l.length ≤ 1000) : (bytesL l).length ≤ 5000000 := by
  unfold bytesL
  rw [List.length_append]
  have h1 := sept_ten (n := l.length) (by omega)
  have h2 := flat_len l h
  omega
set_option maxRecDepth 100000 in
set_option maxHeartbeats 4000000 in
theorem dlay_any (w0 : World) (ob : Nat) (hob : w0.heap.size ≤ ob) (vo : Value) (pre : List Int) (vl : Value) (l : List ByteArray) (w : World) (hl : Sl w0 vl (l.map Value.string)) (hJ : LJ 59 5 w0 w ob vo vo pre w) (hz : ∀ s ∈ l, s.size ≤ 4000) (hll : l.length ≤ 1000) (hpl : pre.length ≤ 50000000) :
    Calls Try.prog 53 #[vl, .pointer (some ⟨ob, 0, none⟩)] w fun e w' => e = .returned (.int .i64 0) ∧ ∃ v', LJ 59 5 w0 w ob vo v' (pre ++ bytesL l) w' := by
  have hmix := mixed
  obtain ⟨i0, hi, hz0, hz1, hz2⟩ := infob
  obtain ⟨oL, cL, rfl, _, _, aL⟩ := hl.mshape
  have HZ := Lib.hid hz
  obtain ⟨n, hn⟩ : ∃ n, n = l.length := ⟨_, rfl⟩
  rw [← hn] at hll ⊢
  have HN := Lib.hid hn
  have q1 : IntKind.u64.wrap (n : Int) = (n : Int) := by rw [IntKind.wrap_u64]; omega
  obtain ⟨oo, co, eo⟩ := hJ.o.shape
  rw [List.length_map] at eo
  have J1 : LJ 59 5 w0 w ob vo vo pre w.drew := hJ.later (Gr.drew w).below
  have HJ1 := Lib.hid J1
  obtain ⟨c0, z0, l0⟩ : w.cell? ⟨ob, 0, none⟩ = some vo ∧ w.frozen? ⟨ob, 0, none⟩ = false ∧ ob < w.heap.size := ⟨hJ.k.cell 0, hJ.k.frozen 0, hJ.k.lt⟩
  have bc : Below w.drew.heap.size w.drew w.drew := Below.refl _ _
  have hsep := sept_ten (n := n) (by omega)
  have hsep0 := sept_pos n
  subst eo
  clear hl hz hn hJ J1
  go_enter Try.func53, Try.ntmps53
  go_wp2
  go_region_law (first | (go_simp; go_at_call 54; (with_reducible refine (cnumber_any n (by omega) _).mono ?_); rintro e wN ⟨vN, rfl, hN, bN⟩; have bc := bc.trans (bN.mono bc.size); obtain ⟨oN, xN, rfl⟩ := hN.shape; have kN := (HJ1.out.later bc).k; obtain ⟨c0, z0, l0⟩ : wN.cell? ⟨ob, 0, none⟩ = some (.slice oo pre.length co) ∧ wN.frozen? ⟨ob, 0, none⟩ = false ∧ ob < wN.heap.size := ⟨kN.cell 0, kN.frozen 0, kN.lt⟩) | (refine step_append_sl2 rfl _ _ 59 (by rfl) w0.heap.size 5 i0 (.int .u8 0) 1 Try.underlying59 hi hz0 hz1 hz2 rfl _ _ (by rfl) ((HJ1.out.later bc).o) _ ((sept n).map (Value.int .u8)) (by rfl) hN.ow.sl (by intro e; have := congrArg List.length e; simp at this; rw [this] at hsep0; simp at hsep0) (by intro y hy; obtain ⟨x, _, rfl⟩ := List.mem_map.1 hy; rfl) (by simp; omega) (by simp; omega) ((HJ1.out.later bc).low.size) ?_; intro v3 w3 hO3 hG3 hW3; have k3 : Blk w3 ob #[.slice oo pre.length co] 59 := (hG3.block ob (HJ1.out.later bc).k.lt (fun e => (HJ1.out.later bc).o.ne_blk (HJ1.out.later bc).k (by decide) e.symm)).trans (HJ1.out.later bc).k; obtain ⟨o3, x3, rfl⟩ := hO3.shape; obtain ⟨c3, z3, l3⟩ : w3.cell? ⟨ob, 0, none⟩ = some (.slice oo pre.length co) ∧ w3.frozen? ⟨ob, 0, none⟩ = false ∧ ob < w3.heap.size := ⟨k3.cell 0, k3.frozen 0, k3.lt⟩))
  all_goals
    have J2 := (HJ1.out.later bc).add (by rw [List.map_append]; exact hO3) hG3 hW3 (by decide) hob
    simp only [List.length_append, List.length_map] at J2
    obtain ⟨W4, hW4⟩ : ∃ W4, W4 = w3.setCell ⟨ob, 0, none⟩ (.slice o3 (pre.length + (sept n).length) x3) := ⟨_, rfl⟩
    rw [← hW4] at J2 ⊢
    have HJ2 := Lib.hid J2
    clear hW4 J2 hO3 hG3 hW3 k3 c3 z3 l3 kN c0 z0 l0 hN bN bc HJ1 q1
    go_wp2
    go_loopw [5, 6, 7, 16] (fun _ _ _ i wr => ∃ (j : Nat) (v : Value), j ≤ n ∧ i = .int .i64 (j : Int) ∧ Hid (LJ 59 5 w0 w ob (.slice oo pre.length co) v (pre ++ (sept n ++ (l.take j).flatMap fun s => bytesText (strB s))) wr)) (fun _ _ _ i _ => n - (intOf i).toNat)
    case atStart => exact ⟨0, _, Nat.zero_le _, rfl, Lib.hid (by simpa using HJ2.out)⟩
    case round =>
      obtain ⟨j, v, hj, rfl, HJ⟩ := hrel
      clear HJ2
      by_cases hlt : j < n
      · have hjl : j < l.length := by have := HN.out; omega
        obtain ⟨bT, fT, rfl, hbT, hcT⟩ := aL.resolve_left (fun e => by rw [e] at hjl; simp at hjl)
        have d1 := (HJ.out.low.cell (p := ⟨bT, fT + j, none⟩) hbT).trans (hcT j hjl)
        have htk := List.take_succ_eq_append_getElem hjl
        have hs4 := HZ.out _ (List.getElem_mem hjl)
        have hfl := flat_len (l.take j) (fun x hx => HZ.out x (List.mem_of_mem_take hx))
        obtain ⟨s, hs⟩ : ∃ s, s = l[j] := ⟨_, rfl⟩
        rw [← hs] at d1 htk hs4
        have HTK := Lib.hid htk
        have hbl : (pre ++ (sept n ++ (l.take j).flatMap fun s => bytesText (strB s))).length ≤ 60000000 := by
          simp only [List.length_append]
          rw [List.length_take] at hfl
          have : min j l.length ≤ 1000 := by omega
          omega
        obtain ⟨PL, hPL⟩ : ∃ PL, PL = pre ++ (sept n ++ (l.take j).flatMap fun s => bytesText (strB s)) := ⟨_, rfl⟩
        rw [← hPL] at HJ hbl
        have HPL := Lib.hid hPL
        have HBL := Lib.hid hbl
        have hbt := bytesText_len (l := strB s) (by rw [strB_len]; exact hs4)
        have HBT := Lib.hid hbt
        have hne0 : (bytesText (strB s)).map (Value.int .u8) ≠ [] := by
          intro e
          have := congrArg List.length e
          have h1 := sept_pos (strB s).length
          simp [bytesText] at this
          rw [this.1] at h1
          simp at h1
        have HTX := ctext_any s hs4
        obtain ⟨BT, hBT⟩ : ∃ BT, BT = bytesText (strB s) := ⟨_, rfl⟩
        rw [← hBT] at hne0 HBT HTX
        have HBTT := Lib.hid hBT
        have HTXX := Lib.hid HTX
        have HNE := Lib.hid hne0
        clear hs hcT htk hjl hfl hbl hbt hne0 hPL hBT HTX
        go_wp2_with fail
        refine (HTXX.out _).mono ?_
        rintro e w5 ⟨vb, rfl, hob5, hb5⟩
        have J5 := HJ.out.later hb5
        obtain ⟨c0, z0, l0⟩ : w5.cell? ⟨ob, 0, none⟩ = some v ∧ w5.frozen? ⟨ob, 0, none⟩ = false ∧ ob < w5.heap.size := ⟨J5.k.cell 0, J5.k.frozen 0, J5.k.lt⟩
        obtain ⟨ov, cv, ev⟩ := J5.o.shape
        obtain ⟨M, hM⟩ : ∃ M, M = (PL.map (Value.int .u8)).length := ⟨_, rfl⟩
        rw [← hM] at ev
        obtain ⟨o5, c5, e5⟩ := hob5.shape
        obtain ⟨M5, hM5⟩ : ∃ M5, M5 = BT.length := ⟨_, rfl⟩
        rw [← hM5] at e5
        subst ev
        subst e5
        clear hM hM5
        have HJ5 := Lib.hid J5
        have HO5 := Lib.hid hob5
        clear J5 hob5 hb5
        go_wp2_with (at_builtin; refine wpList_append_sl2 rfl _ _ 59 rfl w0.heap.size 5 i0 (.int .u8 0) 1 Try.underlying59 hi hz0 hz1 hz2 rfl _ _ rfl HJ5.out.o _ (BT.map (Value.int .u8)) rfl HO5.out.ow.sl HNE.out ?qa1 ?qa2 ?qa3 ?qa4 ?_)
        case qa1 => intro y hy; obtain ⟨x, _, rfl⟩ := List.mem_map.1 hy; rfl
        case qa2 => have := HBL.out; have := HBT.out; simp only [List.length_map]; omega
        case qa3 => have := HBL.out; have := HBT.out; simp only [List.length_map]; omega
        case qa4 => exact HJ5.out.low.size
        intro v6 w6 hO6 hG6 hW6
        have J6 := HJ5.out.add (by rw [List.map_append]; exact hO6) hG6 hW6 (by decide) hob
        have k6 : Blk w6 ob #[.slice ov M cv] 59 := (hG6.block ob HJ5.out.k.lt (fun e => HJ5.out.o.ne_blk HJ5.out.k (by decide) e.symm)).trans HJ5.out.k
        obtain ⟨c6, z6, l6⟩ : w6.cell? ⟨ob, 0, none⟩ = some (.slice ov M cv) ∧ w6.frozen? ⟨ob, 0, none⟩ = false ∧ ob < w6.heap.size := ⟨k6.cell 0, k6.frozen 0, k6.lt⟩
        obtain ⟨o6, x6, e6⟩ := hO6.shape
        obtain ⟨M6, hM6⟩ : ∃ M6, M6 = (List.map (Value.int .u8) PL ++ List.map (Value.int .u8) BT).length := ⟨_, rfl⟩
        rw [← hM6] at e6
        subst e6
        have HJ6 := Lib.hid J6
        clear J6 k6 hO6 hG6 hW6 hM6
        go_wp2
        go_roundw
        case rel =>
          refine ⟨j + 1, .slice o6 M6 x6, by omega, by go_num, Lib.hid ?_⟩
          have h6 := HJ6.out
          rw [HTK.out, List.flatMap_append]
          rw [HPL.out, HBTT.out] at h6
          simpa using h6
        case measure => simp [intOf]; omega
      · obtain rfl : j = n := by omega
        have hfin : l.take j = l := List.take_of_length_le (by have := HN.out; omega)
        have hJf := HJ.out
        rw [hfin] at hJf
        have HJF := Lib.hid hJf
        clear hJf hfin
        go_wp2
        go_ret
        refine ⟨rfl, v, ?_⟩
        unfold bytesL
        rw [← HN.out]
        exact HJF.out
end Go.Proofs.Ytmghbejbdkoehaa

