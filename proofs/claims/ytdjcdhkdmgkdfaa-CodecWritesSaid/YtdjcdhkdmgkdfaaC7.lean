/- The reader's steps that read a frame, and a row. -/
import Derived.Test.YtdjcdhkdmgkdfaaC6
namespace Go.Proofs.Ytdjcdhkdmgkdfaa
open Go.RowKit Go.Proofs.Kit Go.Shelf

theorem rdCut_sub {bs l : List Int} {p m q : Nat} (h : rdCut bs p m = .ok (l, q)) : l = (bs.drop p).take m ∧ q = p + m ∧ m ≤ bs.length - p := by
  unfold rdCut at h
  split at h
  · cases h
  · injection h with h; injection h with h1 h2; exact ⟨h1.symm, h2.symm, by omega⟩
theorem byt_sub {bs : List Int} (h : Byt bs) (p m : Nat) : Byt ((bs.drop p).take m) := fun y hy => h y (List.mem_of_mem_drop (List.mem_of_mem_take hy))
theorem rdCounted_sub {limit : Nat} {bs l : List Int} {p q : Nat} (hb : Byt bs) (h : rdCounted limit bs p = .ok (l, q)) : Byt l ∧ l.length ≤ bs.length := by
  cases hr : rdN bs p with
  | error c => rw [rdN_err hr] at h; cases h
  | ok y =>
    obtain ⟨n, q1⟩ := y
    rw [rdN_ok hr] at h
    split at h
    · cases h
    · obtain ⟨rfl, _, _⟩ := rdCut_sub h
      exact ⟨byt_sub hb _ _, by simp; omega⟩

def rdFrame (bs : List Int) (p : Nat) : Except Int (List Int × Nat) :=
  match rdCounted 1048576 bs p with
  | .error c => .error c
  | .ok (l, q) => match rdSum bs q with
    | .error c => .error c
    | .ok (s, q') => if s = sumB l then .ok (l, q') else .error 122
theorem rdFrame_e1 {bs : List Int} {p : Nat} {c : Int} (h : rdCounted 1048576 bs p = .error c) : rdFrame bs p = .error c := by simp [rdFrame, h]
theorem rdFrame_e2 {bs l : List Int} {p q : Nat} {c : Int} (h : rdCounted 1048576 bs p = .ok (l, q)) (h2 : rdSum bs q = .error c) : rdFrame bs p = .error c := by simp [rdFrame, h, h2]
theorem rdFrame_ok {bs l : List Int} {p q q' : Nat} {s : Int} (h : rdCounted 1048576 bs p = .ok (l, q)) (h2 : rdSum bs q = .ok (s, q')) : rdFrame bs p = if s = sumB l then .ok (l, q') else .error 122 := by simp [rdFrame, h, h2]

set_option maxHeartbeats 2000000 in
theorem mframe_any (r p : Nat) (bv : Value) (bs : List Int) (w : World) (h : Rdr w r bv bs p) :
    Calls Try.prog 34 #[.pointer (some ⟨r, 0, none⟩)] w (Stp r bv bs w (rdFrame bs p) (fun l v w' => Owns .u8 5 w.heap.size w' v l)) := by
  obtain ⟨i0, hi, hz0, hz1, hz2⟩ := infob
  have HR := Lib.hid h; clear h
  go_enter Try.func34, Try.ntmps34
  go_wp2_with fail
  refine (counted_any 1048576 r p bv bs _ HR.out).mono ?_
  rintro e w1 ⟨hB1, ⟨l, q, v, hr, rfl, hP, hR1⟩ | ⟨c, hr, rfl⟩⟩
  · obtain ⟨hbl, hll⟩ := rdCounted_sub HR.out.byt hr
    have hl9 := HR.out.bd
    have HRR := Lib.hid hr
    have HR1 := Lib.hid hR1
    have HBL := Lib.hid hbl
    clear hr hR1 hbl
    go_wp2_with fail
    refine (msum_any r q bv bs _ HR1.out).mono ?_
    rintro e w2 ⟨hB2, ⟨s, q2, v2, hr2, rfl, rfl, hR2⟩ | ⟨c, hr2, rfl⟩⟩
    · have hs2 := hB2.seg hP.1 hP.2
      have hres := rdFrame_ok HRR.out hr2
      have HRES := Lib.hid hres
      have HR2 := Lib.hid hR2
      have hB := hB1.trans hB2
      clear hr2 hres hR2
      go_wp2_with fail
      refine (sum_any v l _ hs2 HBL.out).mono ?_
      obtain ⟨S, hS⟩ : ∃ S, S = sumB l := ⟨_, rfl⟩
      rw [← hS]
      rintro e w3 ⟨rfl, rfl⟩
      by_cases hsS : s = S
      · have ht : (s != S) = false := by simpa using hsS
        have hres2 : rdFrame bs p = .ok (l, q2) := by rw [HRES.out, if_pos (by rw [hsS, hS])]
        have HRES2 := Lib.hid hres2
        clear hres2 hsS hS
        obtain ⟨o, cap, rfl, hc, hm, hcells⟩ := hs2.shape
        obtain ⟨n, hn⟩ : ∃ n, n = l.length := ⟨_, rfl⟩
        rw [← hn] at hll ⊢
        have HN := Lib.hid hn
        have HC := Lib.hid hcells
        clear hn hcells hP hs2 hc hm
        go_wp2_with (at_make; refine wpList_make_full _ rfl _ _ 28 rfl w3.heap.size 5 i0 (.int .u8 0) 1 Try.underlying28 hi hz0 hz1 .i64 .i64 _ _ n rfl rfl rfl rfl ?qa1 ?qa2 ?qa3 ?_)
        case qa1 => rw [hz2]; omega
        case qa2 => unfold maxLen; omega
        case qa3 => exact Nat.le_refl _
        intro w4 hown hgrow
        have hb4 : Below w3.heap.size w3 w4 := ⟨hgrow.os, hgrow.tape, hgrow.output, hgrow.size, fun k hk => hgrow.block k hk (by simp)⟩
        obtain ⟨g, capg, cur, hge, hgb, hgh, _, _, hgs, _⟩ := hown.2.resolve_left (by rintro ⟨e, _⟩; cases e)
        obtain ⟨rfl, rfl⟩ : g = w3.heap.size ∧ capg = n := by injection hge with e1 e2 e3; injection e1 with e1; injection e1 with e1; exact ⟨e1.symm, e3.symm⟩
        have hcur : cur.toList.length = capg := by simpa using hgs
        have hgh' : w4.heap[w3.heap.size]? = some (.cells cur.toList.toArray 5 (0, 0)) := by simpa using hgh
        have HH := Lib.hid hgh'
        clear hown hgrow hge hgh hgs hgh'
        obtain ⟨cs, hcs⟩ : ∃ cs, cs = l.map (Value.int .u8) := ⟨_, rfl⟩
        have hcl : cs.length = capg := by rw [hcs, List.length_map, HN.out]
        have hone : ∀ u ∈ cs, u.oneCell' = true := by rw [hcs]; exact ints_oneCell _ _
        have hsrc : 0 < cs.length → ∃ ad, o = some ad ∧ ∀ j v, cs[j]? = some v → w4.cell? (ad.add j) = some v := by
          intro hpos
          rcases HC.out with h0 | ⟨b, f, rfl, hlt, ha⟩
          · rw [hcs, h0] at hpos; simp at hpos
          · refine ⟨_, rfl, fun j u hj => ?_⟩
            rw [hcs] at hj
            have hj' : j < l.length := by have := (List.getElem?_eq_some_iff.1 hj).1; simpa using this
            rw [Addr.add_lit, hb4.cell (p := ⟨b, f + j, none⟩) hlt, ha j hj', ← hj]
            simp [hj']
        have HCS := Lib.hid hcs
        have HSRC := Lib.hid hsrc
        have HCL := Lib.hid hcl
        have HCUR := Lib.hid hcur
        clear hcs hsrc hcl hcur HC
        go_wp2_with (with_reducible refine wpList_copy_splice rfl (.tmp 16) (.tmp 17) 28 28 rfl 5 Try.underlying28 ?qb0 (some ⟨w3.heap.size, 0, none⟩) o capg capg capg cap rfl rfl w3.heap.size 0 cur.toList 5 HH.out cs ?qb1 ?qb2 ?qb3 hone w3.heap.size w3 hb4 (Nat.le_refl _) ?_)
        case qb0 => rw [hi]; simp [hz1]
        case qb1 => rw [HCL.out]; simp
        case qb2 => exact HSRC.out
        case qb3 => have := HCL.out; have := HCUR.out; omega
        intro w5 hg5 hb5
        go_wp2
        go_ret
        refine ⟨hB.later hb5, .inl ⟨l, q2, _, HRES2.out, rfl, ?_, HR2.out.later hb5⟩⟩
        have e := HN.out
        have hblk : Blk w5 w3.heap.size (splice cur.toList 0 cs).toArray 5 := hg5.out
        have e2 : splice cur.toList 0 cs = l.map (Value.int .u8) := by
          unfold splice
          rw [List.drop_of_length_le (by have := HCL.out; have := HCUR.out; omega), HCS.out]
          simp
        rw [e2] at hblk
        refine ⟨by simp, .inr ⟨w3.heap.size, l.length, (l.map (Value.int .u8)).toArray, by rw [← e]; rfl, hB.size, hblk, Nat.le_refl _, by unfold maxLen; omega, by simp, by simp [List.take_of_length_le]⟩⟩
      · have ht : (s != S) = true := by simpa using hsS
        have hres2 : rdFrame bs p = .error 122 := by rw [HRES.out, if_neg (by rw [← hS]; exact hsS)]
        have HRES2 := Lib.hid hres2
        clear hres2 hsS hS
        go_wp2_with fail
        exact bodyPost_panic rfl ⟨hB, .inr ⟨122, HRES2.out, rfl⟩⟩
    · exact bodyPost_panic rfl ⟨hB1.trans hB2, .inr ⟨c, rdFrame_e2 HRR.out hr2, rfl⟩⟩
  · exact bodyPost_panic rfl ⟨hB1, .inr ⟨c, rdFrame_e1 hr, rfl⟩⟩

def rdRows : Nat → List Int → Nat → List Int → Except Int (List Int × Nat)
  | 0, _, q, acc => .ok (acc, q)
  | k + 1, bs, q, acc => match rdN bs q with
    | .error c => .error c
    | .ok (x, q') => rdRows k bs q' (acc ++ [x])
def rdRow (bs : List Int) (p : Nat) : Except Int (List Int × Nat) :=
  match rdN bs p with
  | .error c => .error c
  | .ok (n, q) => if bs.length - q < n.toNat then .error 120 else rdRows n.toNat bs q []
theorem rdRow_e {bs : List Int} {p : Nat} {c : Int} (h : rdN bs p = .error c) : rdRow bs p = .error c := by simp [rdRow, h]
theorem rdRow_ok {bs : List Int} {p q : Nat} {n : Int} (h : rdN bs p = .ok (n, q)) : rdRow bs p = if bs.length - q < n.toNat then .error 120 else rdRows n.toNat bs q [] := by simp [rdRow, h]
theorem rdRows_e {k : Nat} {bs acc : List Int} {q : Nat} {c : Int} (h : rdN bs q = .error c) : rdRows (k + 1) bs q acc = .error c := by simp [rdRows, h]
theorem rdRows_ok {k : Nat} {bs acc : List Int} {q q' : Nat} {x : Int} (h : rdN bs q = .ok (x, q')) : rdRows (k + 1) bs q acc = rdRows k bs q' (acc ++ [x]) := by simp [rdRows, h]

theorem mneed_any (r p many : Nat) (bv : Value) (bs : List Int) (w : World) (h : Rdr w r bv bs p) :
    Calls Try.prog 39 #[.pointer (some ⟨r, 0, none⟩), .int .u64 (many : Int)] w fun e w' => Below w.heap.size w w' ∧ (e = if bs.length - p < many then fault 120 else .returned (.tuple #[])) := by
  obtain ⟨o, c, rfl, hc, hm, _⟩ := h.seg.shape
  have hle := h.le
  by_cases hn : bs.length - p < many
  · rw [if_pos hn]; exact (need_no r p _ c many o w h.blk h.le (by omega) hn).mono fun e w' ⟨he, hb⟩ => ⟨hb, he⟩
  · rw [if_neg hn]; exact (need_ok r p _ c many o w h.blk h.le (by omega) (by omega)).mono fun e w' ⟨he, hb⟩ => ⟨hb, he⟩

set_option maxHeartbeats 2000000 in
theorem mrow_any (r p : Nat) (bv : Value) (bs : List Int) (w : World) (hrw : r < w.heap.size) (h : Rdr w r bv bs p) :
    Calls Try.prog 30 #[.pointer (some ⟨r, 0, none⟩)] w (Stp r bv bs w (rdRow bs p) (fun l v w' => Owns .u64 26 w.heap.size w' v l)) := by
  obtain ⟨i0, hi, hz0, hz1, hz2⟩ := infou
  have HR := Lib.hid h; clear h
  go_enter Try.func30, Try.ntmps30
  go_wp2_with fail
  refine (mnumber_any r p bv bs _ HR.out).mono ?_
  rintro e w1 ⟨hB1, ⟨x, q, v, hr, rfl, rfl, hR1⟩ | ⟨c, hr, rfl⟩⟩
  · obtain ⟨n, rfl, hn64, _, hqn, _⟩ := rdN_back HR.out.byt hr
    have hres := rdRow_ok hr
    have hbd := HR.out.bd
    rw [Int.toNat_natCast] at hres
    have HRES := Lib.hid hres
    have HR1 := Lib.hid hR1
    clear hr hres hR1
    go_wp2_with fail
    refine (mneed_any r q n bv bs _ HR1.out).mono ?_
    rintro e w2 ⟨hb2, rfl⟩
    by_cases hnd : bs.length - q < n
    · rw [if_pos hnd]
      exact bodyPost_panic rfl ⟨hB1.later hb2, .inr ⟨120, by rw [HRES.out, if_pos hnd], rfl⟩⟩
    · rw [if_neg hnd]
      have hres2 : rdRow bs p = rdRows n bs q [] := by rw [HRES.out, if_neg hnd]
      have HRES2 := Lib.hid hres2
      have hn9 : n ≤ 1000000000 := by omega
      have hR2 := HR1.out.later hb2
      have hB2 := hB1.later hb2
      clear hnd hres2
      go_wp2
      go_loopw [4, 11] (fun s i wr => ∃ (k q' : Nat) (acc : List Int), k ≤ n ∧ i = .int .u64 (k : Int) ∧ acc.length = k ∧ Owns .u64 26 w.heap.size wr s acc ∧ But r w wr ∧ Rdr wr r bv bs q' ∧ Hid (rdRow bs p = rdRows (n - k) bs q' acc)) (fun _ i _ => n - (intOf i).toNat)
      case atStart => exact ⟨0, q, [], by omega, rfl, rfl, Owns.nil _ _ _ _, hB2, hR2, Lib.hid HRES2.out⟩
      case round =>
        obtain ⟨k, q', acc, hk, rfl, hal, hO, hB, hR, hrd⟩ := hrel
        have HR3 := Lib.hid hR
        have HAL := Lib.hid hal
        have hacc : acc.length ≤ 1000000000 := by omega
        clear hR hal
        by_cases hlt : k < n
        · go_wp2_with fail
          refine (mnumber_any r q' bv bs _ HR3.out).mono ?_
          rintro e w3 ⟨hB3, ⟨x, q3, v, hr, rfl, rfl, hR3⟩ | ⟨c, hr, rfl⟩⟩
          · have hO3 := hB3.own hO hrw
            have hrd3 : rdRow bs p = rdRows (n - (k + 1)) bs q3 (acc ++ [x]) := by rw [hrd.out, show n - k = (n - (k + 1)) + 1 by omega, rdRows_ok hr]
            have HRD3 := Lib.hid hrd3
            have HR4 := Lib.hid hR3
            have hB4 := hB.trans hB3
            clear hr hrd3 hR3
            go_wp2_with (at_builtin; refine wpList_append_own _ rfl _ _ 22 rfl w.heap.size 26 i0 (.int .u64 0) 1 8 Try.underlying22 hi hz0 hz1 hz2 rfl (by decide) _ _ _ rfl (World.ownsRow.alloc hO3 _) ⟨w3.heap.size, 0, none⟩ 1 1 [.int .u64 x] rfl rfl ?qd1 ?qd2 ?qd3 ?qd4 ?qd5 ?_)
            case qd1 => exact cell_one_new _ _ _
            case qd2 => simp [Value.oneCell']
            case qd3 => unfold maxLen; omega
            case qd4 => omega
            case qd5 => have := hB4.size; simp; omega
            intro v4 w4 hown hgrow _
            have hO4 : Owns .u64 26 w.heap.size w4 v4 (acc ++ [x]) := by
              unfold Owns
              rw [List.length_append, List.map_append]
              exact hown
            have hb4 : Below w.heap.size (w3.alloc (.cells #[.int .u64 x] 26)) w4 := (Below.refl _ _).grown hgrow (by have := hB4.size; simp; omega) (fun k hk => (World.ownsRow.lt hO3 k hk).1)
            have hB5 : But r w w4 := (hB4.alloc (.cells #[.int .u64 x] 26)).low hb4 (Nat.le_refl _)
            have hR5 : Rdr w4 r bv bs q3 := ⟨(HR4.out.blk.alloc _).below hb4 hrw, hB5.seg HR.out.seg HR.out.ne, HR4.out.byt, HR4.out.ne, HR4.out.le, HR4.out.bd⟩
            have HR5 := Lib.hid hR5
            clear hown hgrow hR5
            go_wp2
            go_roundw
            case rel => exact ⟨k + 1, q3, acc ++ [x], by omega, by go_num, by have := HAL.out; simp; omega, hO4, hB5, HR5.out, HRD3⟩
            case measure => simp [intOf]; omega
          · go_wp2_with fail
            have hrd3 : rdRow bs p = .error c := by rw [hrd.out, show n - k = (n - (k + 1)) + 1 by omega, rdRows_e hr]
            exact bodyPost_panic rfl ⟨hB.trans hB3, .inr ⟨c, hrd3, rfl⟩⟩
        · go_wp2
          go_ret
          refine ⟨hB, .inl ⟨acc, q', _, ?_, rfl, hO, HR3.out⟩⟩
          rw [hrd.out, show n - k = 0 by omega]
          rfl
  · exact bodyPost_panic rfl ⟨hB1, .inr ⟨c, rdRow_e hr, rfl⟩⟩
end Go.Proofs.Ytdjcdhkdmgkdfaa
