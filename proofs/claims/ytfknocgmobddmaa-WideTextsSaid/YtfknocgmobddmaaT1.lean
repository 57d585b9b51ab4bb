import Derived.Test.YtfknocgmobddmaaBits
namespace Go.Proofs.Ytfknocgmobddmaa
open Go.RowKit Go.Proofs.Kit

theorem add64_0 (x y : Int) (hx : 0 ≤ x) (hy : 0 ≤ y) (w : World) : (callFunc 59 #[.int .u64 x, .int .u64 y, .int .u64 0]).run Try.prog w =
    .ok (.value (.tuple #[.int .u64 ((x + y) % 18446744073709551616), .int .u64 ((x + y) / 18446744073709551616)])) w := by
  simpa using add64 x y 0 hx hy (Int.le_refl 0) (by decide) w
theorem sub64_0 (x y : Int) (hx : 0 ≤ x) (hy : 0 ≤ y) (hy' : y < 18446744073709551616) (w : World) : (callFunc 54 #[.int .u64 x, .int .u64 y, .int .u64 0]).run Try.prog w =
    .ok (.value (.tuple #[.int .u64 ((x - y) % 18446744073709551616), .int .u64 (if x < y then 1 else 0)])) w := by
  simpa using sub64 x y 0 hx hy hy' (Int.le_refl 0) (by decide) w

/-- A wide number's value. -/
abbrev WV (h l : Int) : Value := .agg #[.int .u64 h, .int .u64 l]
/-- The panic of a number that can't be. -/
abbrev ovf : Ending := .panicked [{ v := .iface 79 (.agg #[]), recovered := false }]

/-- How a reckoning ends that comes to S, if c, and is an overflow, if not. -/
def Reck (c : Prop) (S : Int) (e : Ending) : Prop := (c → e = .returned (WV (hiW S) (loW S))) ∧ (¬ c → e = ovf)
theorem Reck.ok {c : Prop} {S : Int} (h : c) : Reck c S (.returned (WV (hiW S) (loW S))) := ⟨fun _ => rfl, fun n => absurd h n⟩
theorem Reck.no {c : Prop} {S : Int} (h : ¬ c) : Reck c S ovf := ⟨fun n => absurd n h, fun _ => rfl⟩

set_option maxHeartbeats 400000 in
theorem of_any (n : Int) (w : World) :
    Calls Try.prog 19 #[.int .u64 n] w fun e w' => e = .returned (WV 0 n) ∧ Below w.heap.size w w' := by
  go_enter Try.func19, Try.ntmps19
  go_wp2
  exact bodyPost_ret (v := WV 0 n) (by simp [results, Try.results19, go_sem]) rfl ⟨rfl, (Below.refl _ _).alloc (Nat.le_refl _) _⟩

set_option maxHeartbeats 1000000 in
theorem total_any (b off len cap : Nat) (l : List (Int × Int)) (w : World) (hlen : len ≤ 1000000) (hl : l.length = len) (hb : b < w.heap.size)
   (hw : ∀ p ∈ l, Wp p)
   (hc : ∀ k (h : k < l.length), w.cell? ⟨b, off + k * 2, none⟩ = some (.int .u64 l[k].1) ∧ w.cell? ⟨b, off + k * 2 + 1, none⟩ = some (.int .u64 l[k].2)) :
    Calls Try.prog 46 #[.slice (some ⟨b, off, none⟩) len cap] w fun e w' => Reck (sumN l < Big) (sumN l) e ∧ Below w.heap.size w w' := by
  have HL := Lib.hid hl; clear hl
  have HC := Lib.hid hc; clear hc
  have HW := Lib.hid hw; clear hw
  go_enter Try.func46, Try.ntmps46
  go_wp2
  go_loopw [5, 6, 7, 8, 9, 12] (fun _ _ _ _ _ i wr => ∃ k : Nat, k ≤ len ∧ i = .int .i64 k ∧ sumN (l.take k) < Big ∧ Blk wr w.heap.size #[.int .u64 0, .int .u64 0] 26 ∧ Blk wr (w.heap.size + 1) #[.int .u64 (hiW (sumN (l.take k))), .int .u64 (loW (sumN (l.take k)))] 26 ∧ Below w.heap.size w wr) (fun _ _ _ _ _ i _ => len - (intOf i).toNat)
  case atStart =>
    refine ⟨0, Nat.zero_le _, rfl, by simp [sumN, Big], (Blk.new _ _ _).alloc _, ?_, ((Below.refl _ _).alloc (Nat.le_refl _) _).alloc (by simp) _⟩
    have := Blk.new (w.alloc (.cells #[.int .u64 0, .int .u64 0] 26)) #[.int .u64 0, .int .u64 0] 26
    simpa [sumN, hiW, loW] using this
  case round =>
    obtain ⟨k, hk, rfl, hS, hb0, hb1, hB⟩ := hrel
    have d0 := hb1.cell 0
    have d1 := hb1.cell 1
    have f0 := hb1.frozen 0
    have f1 := hb1.frozen 1
    have g0 := hb0.frozen 0
    have g1 := hb0.frozen 1
    have r0 := hb0.cell 0
    have r1 := hb0.cell 1
    simp only [List.getElem?_toArray, List.getElem?_cons_zero, List.getElem?_cons_succ] at d0 d1 r0 r1
    have hz : w.heap.size + 1 < wr.heap.size := hb1.lt
    by_cases hlt : k < len
    · have hkl : k < l.length := by have := HL.out; omega
      have hcell := HC.out k hkl
      have c0 : wr.cell? ⟨b, off + k * 2, none⟩ = some (.int .u64 l[k].1) := (hB.cell (p := ⟨b, off + k * 2, none⟩) hb).trans hcell.1
      have c1 : wr.cell? ⟨b, off + k * 2 + 1, none⟩ = some (.int .u64 l[k].2) := (hB.cell (p := ⟨b, off + k * 2 + 1, none⟩) hb).trans hcell.2
      have hwp : Wp l[k] := HW.out _ (List.getElem_mem hkl)
      have hS0 : 0 ≤ sumN (l.take k) := sumN_pos (fun p hp => HW.out p (List.mem_of_mem_take hp))
      have hSS := sumN_take_succ hkl
      obtain ⟨S, hSe⟩ : ∃ S, S = sumN (l.take k) := ⟨_, rfl⟩
      obtain ⟨⟨x, y⟩, hxy⟩ : ∃ q, q = l[k] := ⟨_, rfl⟩
      rw [← hSe] at hS hb1 hSS hS0 d0 d1
      rw [← hxy] at c0 c1 hwp hSS
      simp only at c0 c1
      have HX := Lib.hid hxy
      have HSe := Lib.hid hSe
      have HSS := Lib.hid hSS
      clear hxy hSe hSS hcell
      obtain ⟨hx, hy⟩ := hwp
      have hcar := carry_01 (S := S) hy
      have hhi := hiW_wd hS0 hS
      have hlo := loW_wd S
      obtain ⟨x0, x1⟩ := hx
      obtain ⟨y0, y1⟩ := hy
      obtain ⟨k0, k1⟩ := hcar
      obtain ⟨hi0, hi1⟩ := hhi
      obtain ⟨lo0, lo1⟩ := hlo
      have Hx : Wd x := ⟨x0, x1⟩
      have Hy : Wd y := ⟨y0, y1⟩
      by_cases hov : S + num (x, y) < Big
      · have hne : ((hiW S + x + (loW S + y) / 18446744073709551616) / 18446744073709551616 != 0) = false := by rw [add_over0 hS0 hS Hx Hy hov]; rfl
        go_wp2_with (first | simp only [add64_0 (loW S) y lo0 y0] | simp only [add64 (hiW S) x _ hi0 x0 k0 k1])
        go_roundw
        case rel =>
          have e1 : sumN (l.take (k + 1)) = S + num (x, y) := by rw [HSS.out]
          have b1 := (((hb1.set 0 (.int .u64 (hiW (S + num (x, y))))).set 1 (.int .u64 (loW (S + num (x, y))))).alloc (.cells #[.int .u64 x, .int .u64 y] 26))
          have b0 := ((hb0.other (p := ⟨w.heap.size + 1, 0, none⟩) (by simp) (.int .u64 (hiW (S + num (x, y))))).other (p := ⟨w.heap.size + 1, 1, none⟩) (by simp) (.int .u64 (loW (S + num (x, y))))).alloc (.cells #[.int .u64 x, .int .u64 y] 26)
          refine ⟨k + 1, by omega, by go_num, by rw [e1]; exact hov, ?_, ?_, ?_⟩
          · rw [add_lo S x y, add_hi hS0 hS Hx Hy hov]; exact b0
          · rw [add_lo S x y, add_hi hS0 hS Hx Hy hov, e1]; exact b1
          · exact ((hB.setCell (by simp) _).setCell (by simp) _).alloc (by simp; omega) _
        case measure => simp [intOf]; omega
      · have hne : ((hiW S + x + (loW S + y) / 18446744073709551616) / 18446744073709551616 != 0) = true := by rw [add_over1 hS0 hS Hx Hy hov]; rfl
        go_wp2_with (first | simp only [add64_0 (loW S) y lo0 y0] | simp only [add64 (hiW S) x _ hi0 x0 k0 k1])
        refine bodyPost_panic rfl ⟨Reck.no ?_, hB.alloc (by omega) _⟩
        have h1 := sumN_take_le HW.out (k + 1)
        rw [HSS.out] at h1
        omega
    · obtain rfl : k = len := by omega
      have e1 : sumN (l.take k) = sumN l := by rw [List.take_of_length_le (by have := HL.out; omega)]
      go_wp2_with fail
      refine bodyPost_ret (v := WV (hiW (sumN l)) (loW (sumN l))) (by simp [results, Try.results46, go_sem, r0, r1]) rfl ⟨?_, ?_⟩
      · rw [e1] at hS; exact Reck.ok hS
      · exact (hB.setCell (by simp) _).setCell (by simp) _
end Go.Proofs.Ytfknocgmobddmaa
