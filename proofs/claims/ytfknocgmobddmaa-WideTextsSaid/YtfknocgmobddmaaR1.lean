import Derived.Test.YtfknocgmobddmaaX4
import Derived.Test.YtfknocgmobddmaaKitB
import Derived.Lib.OthersKept
import Derived.Laws.RangeString
import Derived.Laws.RangeAny
namespace Go.Proofs.Ytfknocgmobddmaa
open Go.RowKit Go.Proofs.Kit Go.Shelf

def isDig (c : UInt8) : Bool := decide (48 ≤ c.toNat) && decide (c.toNat ≤ 57)
/-- Is it a number's text? -/
def isTextB (l : List UInt8) : Bool := !l.isEmpty && !(decide (1 < l.length) && decide (l.head? = some 48)) && l.all isDig

theorem take_byte (s : ByteArray) (k : Nat) (h : k < s.size) : s.data.toList.take (k + 1) = s.data.toList.take k ++ [s[k]] := by
  rw [List.take_succ_eq_append_getElem (by simpa using h)]; rfl
theorem all_take_byte (s : ByteArray) (k : Nat) (h : k < s.size) : (s.data.toList.take (k + 1)).all isDig = ((s.data.toList.take k).all isDig && isDig s[k]) := by
  rw [take_byte s k h]; simp
theorem all_false_of {s : ByteArray} {k : Nat} (h : k < s.size) (hd : isDig s[k] = false) : s.data.toList.all isDig = false := by
  rw [List.all_eq_false]
  exact ⟨s[k], by rw [ByteArray.getElem_eq_getElem_data]; exact List.getElem_mem (by simpa using h), by simp [hd]⟩

def allDig (s : ByteArray) : Bool := s.data.toList.all isDig

set_option maxRecDepth 100000 in
set_option maxHeartbeats 1000000 in
/-- The bytes are gone through: all of them are digits, or one is not. -/
theorem isText_loop (s : ByteArray) (w : World) (hs : s.size ≤ 1000000) (h0 : s.toList.isEmpty = false) (hh : (s.size : Int) ≤ 1 ∨ ((1 : Int) < s.size ∧ ∃ h : 0 < s.size, ((s[0].toNat : Int) == 48) = false)) :
    Calls Try.prog 48 #[.string s] w fun e w' => e = .returned (.bool (allDig s)) ∧ Below w.heap.size w w' := by
  rcases hh with hh | ⟨hh, hp, h48⟩
  all_goals
    go_enter Try.func48, Try.ntmps48
    go_wp2
    go_loopw [4] (fun _ wr => ∃ pos : Nat, wr = w.iter s pos ∧ pos ≤ s.size ∧ (s.data.toList.take pos).all isDig = true) (fun _ wr => s.size - wr.iterPos w.heap.size)
    case atStart => exact ⟨0, rfl, Nat.zero_le _, rfl⟩
    case round =>
      obtain ⟨pos, rfl, hle, hall⟩ := hrel
      have HA := Lib.hid hall; clear hall
      have hB : ∀ k, Below w.heap.size w (w.iter s k) := fun k => (Below.refl _ w).alloc (Nat.le_refl _) _
      have HB := Lib.hid hB; clear hB
      by_cases hlt : pos < s.size
      · obtain ⟨c, hc⟩ : ∃ c, c = s[pos] := ⟨_, rfl⟩
        have hcb : (c.toNat : Int) < 256 := by have := c.toNat_lt; omega
        by_cases hasc : c.toNat < 128
        · have hnx : ∀ ty, (Instr.next (.pointer (some ⟨w.heap.size, 0, none⟩)) true ty).run Try.prog (w.iter s pos) = .ok (.tuple #[.bool true, .int .i64 pos, .int .i32 (c.toNat : Int)]) (w.iter s (pos + 1)) := fun ty => by rw [run_next_ascii w s pos ty hlt (by rw [← hc]; exact hasc), hc]
          have HC := Lib.hid hc; clear hc
          by_cases hd : isDig c = true
          · have hd' := hd
            unfold isDig at hd'
            simp only [Bool.and_eq_true, decide_eq_true_eq] at hd'
            obtain ⟨d1, d2⟩ := hd'
            have g1 : decide ((c.toNat : Int) < 48) = false := by simp; omega
            have g2 : decide ((57 : Int) < (c.toNat : Int)) = false := by simp; omega
            go_wp2
            go_roundw
            case rel => exact ⟨pos + 1, rfl, by omega, by rw [all_take_byte s pos hlt, HA.out, ← HC.out, hd]; rfl⟩
            case measure => simp; omega
          · have hd2 : isDig c = false := by simpa using hd
            have hfin : allDig s = false := all_false_of hlt (by rw [← HC.out]; exact hd2)
            have hd' := hd2
            unfold isDig at hd'
            simp only [Bool.and_eq_false_iff, decide_eq_false_iff_not] at hd'
            have HF := Lib.hid hfin; clear hfin
            by_cases g0 : (c.toNat : Int) < 48
            · have g1 : decide ((c.toNat : Int) < 48) = true := by simp; omega
              go_wp2
              go_ret
              exact ⟨by rw [HF.out]; rfl, HB.out _⟩
            · have g1 : decide ((c.toNat : Int) < 48) = false := by simp; omega
              have g2 : decide ((57 : Int) < (c.toNat : Int)) = true := by simp; omega
              go_wp2
              go_ret
              exact ⟨by rw [HF.out]; rfl, HB.out _⟩
        · have hfin : allDig s = false := all_false_of hlt (by rw [← hc]; unfold isDig; simp; omega)
          obtain ⟨r, hr⟩ : ∃ r, r = (Utf8.decode s pos).1 := ⟨_, rfl⟩
          have hr1 : 128 ≤ r := by rw [hr]; exact (decode_high s pos hlt (by rw [← hc]; omega)).1
          have hr2 : r ≤ 2147483647 := by rw [hr]; exact decode_le s pos
          have hnx : ∀ ty, (Instr.next (.pointer (some ⟨w.heap.size, 0, none⟩)) true ty).run Try.prog (w.iter s pos) = .ok (.tuple #[.bool true, .int .i64 pos, .int .i32 (r : Int)]) (w.iter s (pos + (Utf8.decode s pos).2)) := fun ty => by rw [run_next_any w s pos ty hlt, hr]
          have HR := Lib.hid hr; clear hr
          have HC := Lib.hid hc; clear hc
          have g1 : decide ((r : Int) < 48) = false := by simp; omega
          have g2 : decide ((57 : Int) < (r : Int)) = true := by simp; omega
          have HF := Lib.hid hfin; clear hfin
          go_wp2
          go_ret
          exact ⟨by rw [HF.out]; rfl, HB.out _⟩
      · have hnx : ∀ ty, (Instr.next (.pointer (some ⟨w.heap.size, 0, none⟩)) true ty).run Try.prog (w.iter s pos) = .ok (.tuple #[.bool false]) (w.iter s pos) := fun ty => run_next_end w s pos ty hlt
        have hfin : allDig s = true := by have := HA.out; rw [List.take_of_length_le (by simp; omega)] at this; exact this
        have HF := Lib.hid hfin; clear hfin
        go_wp2
        go_ret
        exact ⟨by rw [HF.out]; rfl, HB.out _⟩

set_option maxHeartbeats 400000 in
theorem isText_empty (s : ByteArray) (w : World) (h0 : s.toList.isEmpty = true) :
    Calls Try.prog 48 #[.string s] w fun e w' => e = .returned (.bool false) ∧ w = w' := by
  have h1 : s.toList = [] := by simpa using h0
  go_enter Try.func48, Try.ntmps48
  go_wp2
  go_ret
  exact ⟨rfl, rfl⟩
set_option maxHeartbeats 400000 in
theorem isText_nought (s : ByteArray) (w : World) (_hs : s.size ≤ 1000000) (h0 : s.toList.isEmpty = false) (hh : (1 : Int) < s.size) (hp : 0 < s.size) (h48 : ((s[0].toNat : Int) == 48) = true) :
    Calls Try.prog 48 #[.string s] w fun e w' => e = .returned (.bool false) ∧ w = w' := by
  go_enter Try.func48, Try.ntmps48
  go_wp2
  go_ret
  exact ⟨rfl, rfl⟩

theorem toList_data (s : ByteArray) : s.toList = s.data.toList := ByteArray.toList_eq s
/-- isText, whatever the text. -/
theorem isText_any (s : ByteArray) (w : World) (hs : s.size ≤ 1000000) :
    Calls Try.prog 48 #[.string s] w fun e w' => e = .returned (.bool (isTextB s.data.toList)) ∧ Below w.heap.size w w' := by
  by_cases h0 : s.toList.isEmpty = true
  · refine (isText_empty s w h0).mono ?_
    rintro e w' ⟨rfl, rfl⟩
    refine ⟨?_, Below.refl _ _⟩
    rw [toList_data] at h0
    unfold isTextB
    rw [h0]; rfl
  · have h0' : s.toList.isEmpty = false := by simpa using h0
    have hsz : s.data.toList.length = s.size := by simp
    have hp : 0 < s.size := by
      rw [toList_data] at h0'
      rcases Nat.eq_zero_or_pos s.size with h | h
      · rw [h] at hsz; rw [List.length_eq_zero_iff] at hsz; rw [hsz] at h0'; simp at h0'
      · exact h
    have hhd : s.data.toList.head? = some s[0] := by
      rw [List.head?_eq_getElem?, List.getElem?_eq_getElem (by simpa using hp)]; rfl
    have hne : s.data.toList.isEmpty = false := by rw [← toList_data]; exact h0'
    by_cases h1 : (1 : Int) < s.size
    · by_cases h48 : ((s[0].toNat : Int) == 48) = true
      · refine (isText_nought s w hs h0' h1 hp h48).mono ?_
        rintro e w' ⟨rfl, rfl⟩
        refine ⟨?_, Below.refl _ _⟩
        have e0 : s[0] = 48 := by
          have : s[0].toNat = 48 := by simp at h48; omega
          exact UInt8.toNat_inj.1 (by rw [this]; rfl)
        unfold isTextB
        rw [hne, hhd, e0, hsz, decide_eq_true (by omega : 1 < s.size)]; rfl
      · have h48' : ((s[0].toNat : Int) == 48) = false := by simpa using h48
        refine (isText_loop s w hs h0' (.inr ⟨h1, hp, h48'⟩)).mono ?_
        rintro e w' ⟨rfl, hb⟩
        refine ⟨?_, hb⟩
        have e0 : s[0] ≠ 48 := by intro e; rw [e] at h48'; simp at h48'
        unfold isTextB allDig
        rw [hne, hhd, show decide (some s[0] = some 48) = false by simpa using e0]; simp
    · refine (isText_loop s w hs h0' (.inl (by omega))).mono ?_
      rintro e w' ⟨rfl, hb⟩
      refine ⟨?_, hb⟩
      unfold isTextB allDig
      rw [hne, hsz, decide_eq_false (by omega : ¬ 1 < s.size)]; simp
end Go.Proofs.Ytfknocgmobddmaa
