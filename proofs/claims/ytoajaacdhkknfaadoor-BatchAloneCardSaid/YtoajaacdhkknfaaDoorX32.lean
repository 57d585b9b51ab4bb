/- BatchAlone: the library's SplitAfter, and the law. (This text is for the seat .D alone: its program's alias is Tryd; 6 is strings.SplitAfter, 7 strings.Join there.) -/
import Derived.Test.YtoajaacdhkknfaaDoorX20
import Derived.Test.YtoajaacdhkknfaaDoorX31
import Derived.Test.YtoajaacdhkknfaaDoorShD
import Derived.BigQuiet
namespace Go.Proofs.Kit
open Go.RowKit
theorem splitB_after (s : ByteArray) : Lib.splitB ⟨#[10]⟩ 1 (Lib.countB s ⟨#[10]⟩) s = (afterL (bl s)).map lb := by
  have hc : Lib.countB s ⟨#[10]⟩ = (bl s).count 10 := Lib.count_one 10 (bl s)
  have hd := Lib.splitB_data ⟨#[10]⟩ 1 (Lib.countB s ⟨#[10]⟩) s
  rw [show (⟨#[10]⟩ : ByteArray).data.toList = [10] from rfl, hc, splitK_after _ _ rfl] at hd
  rw [hc, ← hd, List.map_map]
  conv => lhs; rw [← List.map_id (Lib.splitB _ _ _ _)]
  exact List.map_congr_left fun x _ => (lb_bl x).symm
theorem after_le (s : ByteArray) : (afterL (bl s)).length ≤ s.size + 1 := by
  have hcle : Lib.countB s ⟨#[10]⟩ ≤ s.size := Lib.countB_le ⟨#[10]⟩ (by decide) s.size s (Nat.le_refl _)
  have hl : (Lib.splitB ⟨#[10]⟩ 1 (Lib.countB s ⟨#[10]⟩) s).length = Lib.countB s ⟨#[10]⟩ + 1 := Lib.splitB_all ⟨#[10]⟩ (by decide) 1 _ s rfl
  rw [splitB_after, List.length_map] at hl
  omega
theorem glue_mem' : ∀ (ls : List (List UInt8 × Bool)), ∀ p ∈ ls, (withF p).length ≤ (glue ls).length
  | [], p, h => by simp at h
  | q :: r, p, h => by
    rw [glue, List.length_append]
    rcases List.mem_cons.1 h with rfl | h
    · omega
    · have := glue_mem' r p h; omega
theorem after_mem {L x : List UInt8} (h : x ∈ afterL L) : x.length ≤ L.length := by
  rcases List.mem_append.1 h with h | h
  · obtain ⟨p, hp, rfl⟩ := List.mem_map.1 h
    have := glue_mem' _ p hp
    rwa [glue_lines] at this
  · split at h
    · rw [List.mem_singleton.1 h]; simp
    · simp at h
theorem join_flat (l : List (List UInt8)) : Lib.join l [] = l.flatten := by
  induction l with
  | nil => rfl
  | cons a r ih =>
    cases r with
    | nil => simp [Lib.join]
    | cons b r => simp [Lib.join] at ih ⊢; exact ih
theorem min5000' (n : Nat) : ∃ q : Nat, min (n : Int) 5000 = (q : Int) ∧ q = min n 5000 := ⟨min n 5000, by omega, rfl⟩
end Go.Proofs.Kit
namespace Go.Proofs.YtoajaacdhkknfaaDoor
open Go.RowKit Go.Proofs.Kit Go.Shelf
set_option maxRecDepth 100000 in
set_option maxHeartbeats 1000000 in
theorem splitAfter_any (s : ByteArray) (hs : s.size ≤ 100000) (m : Int) (w : World) (hm : w.cell? ⟨0, 0, none⟩ = some (.int .i64 m)) :
    Calls Tryd.prog 6 #[.string s, .string ⟨#[10]⟩] w fun e w' => e = .returned (.slice (some ⟨w.heap.size, 0, none⟩) (afterL (bl s)).length (afterL (bl s)).length) ∧ w' = w.alloc (.cells ((afterL (bl s)).map sv).toArray 9) := by
  have hcle : Lib.countB s ⟨#[10]⟩ ≤ s.size := Lib.countB_le ⟨#[10]⟩ (by decide) s.size s (Nat.le_refl _)
  have HG := Tryd.strings_genSplit s ⟨#[10]⟩ 1 (-1) (Lib.countB s ⟨#[10]⟩ + 1) m w (by omega) hm (by decide) (by decide) (by decide) (by decide) (by simp; omega)
  have hl : (Lib.splitB ⟨#[10]⟩ 1 (Lib.countB s ⟨#[10]⟩) s).length = Lib.countB s ⟨#[10]⟩ + 1 := Lib.splitB_all ⟨#[10]⟩ (by decide) 1 _ s rfl
  rw [Nat.add_sub_cancel, ← hl, Lib.cellsOf_full, splitB_after] at HG
  have e1 : ((afterL (bl s)).map lb).map Value.string = (afterL (bl s)).map sv := by rw [List.map_map]; rfl
  rw [List.length_map, e1] at HG
  have H := Lib.hid HG
  clear HG hl hcle e1
  go_enter Tryd.func6, Tryd.ntmps6
  go_wp2_with fail
  refine H.out.mono ?_
  rintro e w2 ⟨rfl, rfl⟩
  go_wp2_with fail
  go_ret
  exact ⟨rfl, rfl⟩
set_option maxRecDepth 100000 in
set_option maxHeartbeats 4000000 in
theorem alone9_true (s : ByteArray) (m : Int) (w : World) (hs : s.size ≤ 9223372036854775807) (hm : w.cell? ⟨0, 0, none⟩ = some (.int .i64 m)) :
    Calls Tryd.prog 3 #[.string s] w fun e w' => e = .returned (.bool true) ∧ Below w.heap.size w w' := by
  have hN : 0 < w.heap.size := World.block_lt_of_cell? _ _ hm
  obtain ⟨q, mq, eq⟩ := min5000' s.size
  have lq : q ≤ s.size := by omega
  have HS := Lib.hid (show (s.extract 0 q).size ≤ 5000 by rw [ByteArray.size_extract]; omega)
  have HM := Lib.hid (fun W (b : Below w.heap.size w W) => (b.cell (p := ⟨0, 0, none⟩) hN).trans hm)
  have HW := Lib.hid (wakes9_true m w hm)
  clear hm hN eq
  go_enter Tryd.func3, Tryd.ntmps3
  go_wp2_with fail
  refine HW.out.mono ?_
  rintro e w1 ⟨rfl, b1⟩
  have HB1 := Lib.hid b1
  clear b1 HW
  go_wp2_with fail
  obtain ⟨S, hS⟩ : ∃ S, S = s.extract 0 q := ⟨_, rfl⟩
  rw [← hS] at HS ⊢
  clear hS
  obtain ⟨out, n, ee, hrd⟩ : ∃ out n ee, readS (bl S) = (out, n, ee) := ⟨_, _, _, rfl⟩
  have hee := readR_e (linesL (bl S)) []
  rw [show readR [] (linesL (bl S)) = (out, n, ee) from hrd] at hee
  simp only at hee
  refine (readC_any _ (by have := HS.out; omega) m _ (HM.out _ HB1.out)).mono ?_
  rw [hrd]
  rintro e w2 ⟨v2, rfl, o2, b2⟩
  have HB2 := Lib.hid (below_later HB1.out b2)
  have HO2 := Lib.hid o2
  clear b2 o2
  go_wp2_with fail
  refine (splitAfter_any S (by have := HS.out; omega) m _ (HM.out _ HB2.out)).mono ?_
  rintro e w3 ⟨rfl, hw3⟩
  have hPl := after_le S
  have HMEM := Lib.hid (fun (x : List UInt8) (h : x ∈ afterL (bl S)) => after_mem h)
  have HRD := Lib.hid hrd
  obtain ⟨P, hP⟩ : ∃ P, P = afterL (bl S) := ⟨_, rfl⟩
  rw [← hP] at hw3 hPl HMEM ⊢
  have HP := Lib.hid hP
  have g3 : Gr w2 w3 := by rw [hw3]; exact Gr.alloc _ _
  have HK3 := Lib.hid (show Blk w3 w2.heap.size (P.map sv).toArray 9 by rw [hw3]; exact Blk.new _ _ _)
  have HB3 := Lib.hid (below_later HB2.out g3.below)
  have HO3 := Lib.hid (HO2.out.gr g3)
  obtain ⟨N, hNN⟩ : ∃ N, N = P.length := ⟨_, rfl⟩
  have hN5 : N ≤ 5001 := by rw [hNN]; have := HS.out; omega
  have HN := Lib.hid hNN
  rw [← hNN]
  obtain ⟨o, c, rfl⟩ := HO3.out.shape
  clear hw3 g3 hP hNN hPl hrd HO2
  have HC := Lib.hid (show ∀ W, Below w3.heap.size w3 W → ∀ j y, P[j]? = some y → W.cell? ⟨w2.heap.size, j, none⟩ = some (.string (lb y)) from fun W hb j y hy => by
    rw [(HK3.out.later hb).cell]
    simp [hy, sv])
  have hbl : w2.heap.size < w3.heap.size := HK3.out.lt
  rcases hee with rfl | rfl | rfl
  · obtain ⟨hn, ho64, hlenP, hright, hall⟩ := alone_all HRD.out
    rw [← HP.out, ← HN.out] at hlenP
    rw [← HP.out] at hall
    obtain ⟨no, hno⟩ : ∃ k, k = out.length := ⟨_, rfl⟩
    rw [← hno] at hn ho64 hlenP HO3 ⊢
    subst hn hlenP
    have HNO := Lib.hid hno
    have HAL := Lib.hid hall
    have HRT := Lib.hid hright
    clear hall hright hno HRD
    go_wp2_with fail
    go_loopw [104] (fun s104 wr => ∃ k : Nat, k ≤ no ∧ s104 = .int .i64 (k : Int) ∧ Hid (Below w3.heap.size w3 wr)) (fun s104 _ => no - (intOf s104).toNat)
    case atStart => exact ⟨0, Nat.zero_le _, rfl, Lib.hid (Below.refl _ _)⟩
    case round =>
      obtain ⟨k, hk, rfl, HB⟩ := hrel
      by_cases hlt : k < no
      · have e1 : decide ((k : Int) < (no : Int)) = true := by simp; omega
        have hko : k < out.length := by rw [← HNO.out]; exact hlt
        obtain ⟨b, f, rfl, _, _, _, hbo, hcells⟩ := (HO3.out.later HB.out).seg.has hko
        obtain ⟨d0, d1, d2, d3, d4⟩ := ch_cells hcells k hko
        obtain ⟨x, hx⟩ : ∃ x, x = out[k] := ⟨_, rfl⟩
        obtain ⟨p1, p2⟩ := HAL.out k hko
        have hr : rightB out[k] = true := HRT.out _ (List.getElem_mem hko)
        rw [← hx] at d0 d1 d2 d3 d4 p1 p2 hr
        have dp := HC.out wr HB.out k _ p1
        have hbw : w2.heap.size < wr.heap.size := by have := HB.out.size; omega
        have hlz := line_len hr
        have hzl : (lb (lineL x ++ [10])).size ≤ 100000 := by rw [lb_size, List.length_append]; show (lineL x).length + 1 ≤ _; omega
        have hlo : lineO x = lb (lineL x) := by rw [lineO, if_pos hr]; rfl
        have HLN := Lib.hid (fun W => bline_any x (by obtain ⟨a1, a2, a3, a4⟩ := sizes_of hr; exact ⟨by omega, by omega, by omega, by omega⟩) W)
        rw [hlo, hr] at HLN
        have HP2 := Lib.hid p2
        have HDP := Lib.hid (fun W (hb : Below w3.heap.size w3 W) => HC.out W hb k _ p1)
        obtain ⟨ln, hln⟩ : ∃ l, l = lb (lineL x) := ⟨_, rfl⟩
        have hlc : lb (lineL x ++ [10]) = ln ++ ⟨#[10]⟩ := bl_inj (by rw [hln, bl_append])
        have hl2 : ln.size ≤ 200 := by rw [hln, lb_size]; exact hlz
        rw [← hln] at HLN
        rw [hlc] at dp hzl
        have HDP' := Lib.hid (show ∀ W, Below w3.heap.size w3 W → W.cell? ⟨w2.heap.size, k, none⟩ = some (.string (ln ++ ⟨#[10]⟩)) from fun W hb => by rw [← hlc]; exact HDP.out W hb)
        have h9 : readS (bl (ln ++ ⟨#[10]⟩)) = ([x], 1, 0) := by rw [← hlc, bl_lb]; exact p2
        have HRC := Lib.hid (show ∀ W, Below w.heap.size w W → Calls Tryd.prog 5 #[.string (ln ++ ⟨#[10]⟩)] W fun e w' => ∃ v', e = .returned (.tuple #[v', .int .i64 1, .int .i64 0]) ∧ OwnE chgE 31 W.heap.size w' v' [x] ∧ Below W.heap.size W w' from fun W hb => by
          have h8 := readC_any (ln ++ ⟨#[10]⟩) hzl m W (HM.out W hb)
          rw [h9] at h8
          exact h8)
        clear h9 hlc
        clear p1 p2 hr hx hlz hlo HP2 HDP hln hcells
        obtain ⟨x0, x1, x2, x3, x4⟩ := x
        simp only at d0 d1 d2 d3 d4
        have gA := Gr.alloc wr (.cells #[.int .i64 x0, .string x1, .string x2, .string x3, .string x4] 31)
        have BA := Blk.new wr #[.int .i64 x0, .string x1, .string x2, .string x3, .string x4] 31
        have HBA := Lib.hid (below_later HB.out gA.below)
        have HKA := Lib.hid BA
        clear gA BA
        go_wp2_with fail
        refine (HRC.out _ (below_later HB3.out HBA.out)).mono ?_
        rintro e w5 ⟨v5, rfl, o5, b5⟩
        have HB5 := Lib.hid (below_later HBA.out b5)
        have B5 := HKA.out.later b5
        have HK5 := Lib.hid B5
        obtain ⟨c0, c1, c2, c3, c4⟩ := B5.five
        have lC := B5.lt
        obtain ⟨o5', c5, rfl⟩ := o5.shape
        have HO5 := Lib.hid o5
        clear b5 B5 o5 d0 d1 d2 d3 d4 dp
        go_wp2_with fail
        refine (HLN.out _).mono ?_
        rw [show codeC true = 0 from rfl]
        rintro e w6 ⟨rfl, b6⟩
        have B6 := HK5.out.later b6
        obtain ⟨r0, r1, r2, r3, r4⟩ := B6.five
        have lD := B6.lt
        obtain ⟨b7, f7, rfl, _, _, _, hb7, hc7⟩ := (HO5.out.later b6).seg.has (show 0 < [(⟨x0, x1, x2, x3, x4⟩ : Chg)].length by simp)
        obtain ⟨y0, y1, y2, y3, y4⟩ := ch_cells hc7 0 (by simp)
        simp only [List.getElem_cons_zero, Nat.zero_mul, Nat.add_zero] at y0 y1 y2 y3 y4
        have HB6 := Lib.hid (below_later HB5.out b6)
        have dp := HDP'.out w6 HB6.out
        have lE : w2.heap.size < w6.heap.size := by have := HB6.out.size; omega
        have z1 : (ln.size : Int) ≤ 200 := by omega
        clear b6 B6 c0 c1 c2 c3 c4 lC hc7
        go_wp2_with fail
        go_quiet (fail)
        go_wp2
        go_roundw
        case rel => exact ⟨k + 1, by omega, by go_num, Lib.hid (below_drN HB6.out nq)⟩
        case measure => simp only [intOf]; omega
      · have e1 : decide ((k : Int) < (no : Int)) = false := by simp; omega
        go_wp2_with fail
        go_ret
        exact ⟨rfl, below_later HB3.out HB.out⟩
  · obtain ⟨rfl, rfl, h3⟩ := alone_long HRD.out
    rw [← HP.out, ← HN.out] at h3
    have i1 : (64 : Int) < (N : Int) := by omega
    have e1 : decide ((64 : Int) < (N : Int)) = true := by simp; omega
    go_wp2_with fail
    go_ret
    exact ⟨rfl, HB3.out⟩
  · obtain ⟨rfl, k, l, x, rfl, hk, hlk, hk64, hr1, hx, hr2⟩ := alone_line HRD.out
    rw [← HP.out] at hk hr1 hx
    rw [← HN.out] at hk
    have e1 : decide ((k : Int) + 1 < 1) = false := by simp; omega
    have e2 : decide ((N : Int) < (k : Int) + 1) = false := by simp; omega
    have i2 : (k : Int) + 1 ≤ (N : Int) := by omega
    have hjl : ((P.take k).map lb).length = k := by rw [List.length_map, List.length_take, ← HN.out]; omega
    have hfl : ((P.take k).flatten).length ≤ 100000 := by
      have h9 := readS_ok hr1
      rw [← h9.1]
      have := text_len h9.2.1
      omega
    have hjm : (((P.take k).map lb).map (·.data.toList)) = P.take k := by rw [List.map_map]; exact List.map_id _
    have HJ := Tryd.strings_Join w2.heap.size 0 N ((P.take k).map lb) ⟨#[]⟩ w3 (fun j y hy => by
      rw [Nat.zero_add]
      rw [List.getElem?_map] at hy
      obtain ⟨z, hz, rfl⟩ := Option.map_eq_some_iff.1 hy
      exact HC.out w3 (Below.refl _ _) j z (by rw [List.getElem?_take] at hz; split at hz; exact hz; cases hz)) hbl (by rw [hjl]; omega) (by rw [hjl]; omega) (by rw [hjm, show (⟨#[]⟩ : ByteArray).data.toList = [] from rfl, join_flat]; omega)
    rw [hjl, hjm, show (⟨#[]⟩ : ByteArray).data.toList = [] from rfl, join_flat] at HJ
    have HJH := Lib.hid HJ
    have HR1 := Lib.hid hr1
    have HR2 := Lib.hid hr2
    have HX := Lib.hid (fun W (hb : Below w3.heap.size w3 W) => HC.out W hb k x hx)
    have hxs : (lb x).size ≤ 100000 := by
      rw [lb_size]
      have := HMEM.out x (List.mem_of_getElem? hx)
      rw [bl_len] at this
      have := HS.out
      omega
    have hTs : (lb (P.take k).flatten).size ≤ 100000 := by rw [lb_size]; exact hfl
    obtain ⟨T, hT⟩ : ∃ T, T = lb (P.take k).flatten := ⟨_, rfl⟩
    have HJ2 : Hid (Calls Tryd.prog 7 #[.slice (some ⟨w2.heap.size, 0, none⟩) k N, .string ⟨#[]⟩] w3 fun e w' => e = .returned (.string T) ∧ Below w3.heap.size w3 w') := Lib.hid (by rw [hT]; exact HJH.out)
    have HT := Lib.hid (show readS (bl T) = (l, (k : Int), 0) by rw [hT]; exact HR1.out)
    rw [← hT] at hTs
    clear hT HJ HJH HR1 hr1 hr2 hx hjl hjm hfl
    go_wp2_with fail
    refine HJ2.out.mono ?_
    rintro e w4 ⟨rfl, b4⟩
    have HB4 := Lib.hid b4
    clear b4
    go_wp2_with fail
    refine (readC_any T hTs m _ (HM.out _ (below_later HB3.out HB4.out))).mono ?_
    rw [HT.out]
    rintro e w5 ⟨v5, rfl, o5, b5⟩
    obtain ⟨o5', c5, rfl⟩ := o5.shape
    rw [hlk]
    have HB5 := Lib.hid (below_later HB4.out b5)
    have dx := HX.out _ HB5.out
    have hb5l : w2.heap.size < w5.heap.size := by have := HB5.out.size; omega
    clear b5 o5
    go_wp2_with fail
    refine (readC_any (lb x) hxs m _ (HM.out _ (below_later HB3.out HB5.out))).mono ?_
    rw [bl_lb, HR2.out]
    rintro e w6 ⟨v6, rfl, o6, b6⟩
    have HB6 := Lib.hid (below_later HB3.out (below_later HB5.out b6))
    clear b6 o6 dx
    go_wp2_with fail
    go_ret
    exact ⟨rfl, HB6.out⟩
end Go.Proofs.YtoajaacdhkknfaaDoor

