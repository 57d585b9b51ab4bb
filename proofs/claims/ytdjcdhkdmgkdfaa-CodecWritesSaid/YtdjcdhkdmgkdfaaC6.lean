/- The reader's other steps: counted, text, sum, frame, row. -/
import Derived.Test.YtdjcdhkdmgkdfaaC5
import Derived.Laws.CopyOwn
namespace Go.Proofs.Ytdjcdhkdmgkdfaa
open Go.RowKit Go.Proofs.Kit Go.Shelf

def rdCounted (limit : Nat) (bs : List Int) (p : Nat) : Except Int (List Int × Nat) :=
  match rdN bs p with
  | .error c => .error c
  | .ok (n, q) => if (limit : Int) < n then .error 3 else rdCut bs q n.toNat
theorem rdN_err {bs : List Int} {p : Nat} {c : Int} {limit : Nat} (h : rdN bs p = .error c) : rdCounted limit bs p = .error c := by simp [rdCounted, h]
theorem rdN_ok {bs : List Int} {p q : Nat} {n : Int} {limit : Nat} (h : rdN bs p = .ok (n, q)) : rdCounted limit bs p = if (limit : Int) < n then .error 3 else rdCut bs q n.toNat := by simp [rdCounted, h]

set_option maxHeartbeats 1000000 in
theorem counted_any (limit r p : Nat) (bv : Value) (bs : List Int) (w : World) (h : Rdr w r bv bs p) :
    Calls Try.prog 43 #[.pointer (some ⟨r, 0, none⟩), .int .u64 (limit : Int)] w (Stp r bv bs w (rdCounted limit bs p) (Part r)) := by
  have HR := Lib.hid h; clear h
  go_enter Try.func43, Try.ntmps43
  go_wp2_with fail
  refine (mnumber_any r p bv bs _ HR.out).mono ?_
  rintro e w1 ⟨hB1, ⟨x, q, v, hr, rfl, rfl, hR1⟩ | ⟨c, hr, rfl⟩⟩
  · have hq := rdN_back HR.out.byt hr
    obtain ⟨n, rfl, hn64, _, hqn, _⟩ := hq
    have hres := rdN_ok (limit := limit) hr
    have HRES := Lib.hid hres
    have HR1 := Lib.hid hR1
    clear hr hres hR1
    by_cases hlim : (limit : Int) < (n : Int)
    · go_wp2_with fail
      exact bodyPost_panic rfl ⟨hB1, .inr ⟨3, by rw [HRES.out, if_pos hlim], rfl⟩⟩
    · have hres2 : rdCounted limit bs p = rdCut bs q n := by rw [HRES.out, if_neg hlim]; simp
      have HRES2 := Lib.hid hres2
      clear hres2
      go_wp2_with fail
      refine (cut_any r q n bv bs _ HR1.out).mono ?_
      rintro e w2 ⟨hB2, ⟨x, q2, v, hr, rfl, hP, hR2⟩ | ⟨c, hr, rfl⟩⟩
      · have HR2 := Lib.hid hr
        clear hr
        go_wp2
        go_ret
        exact ⟨hB1.trans hB2, .inl ⟨x, q2, _, by rw [HRES2.out, HR2.out], rfl, hP, hR2⟩⟩
      · exact bodyPost_panic rfl ⟨hB1.trans hB2, .inr ⟨c, by rw [HRES2.out, hr], rfl⟩⟩
  · exact bodyPost_panic rfl ⟨hB1, .inr ⟨c, rdN_err hr, rfl⟩⟩

/-- A string of bytes. -/
def ofB (l : List Int) : ByteArray := ⟨(l.map fun n => UInt8.ofNat n.toNat).toArray⟩
theorem conv_seg {W : World} {v : Value} {l : List Int} (h : Seg .u8 W v l) : (convert 28 9 v).run Try.prog W = .ok (.string (ofB l)) W := by
  rcases h.2 with ⟨rfl, rfl⟩ | ⟨b, f, c, rfl, _, _, q, a⟩
  · rw [run_convert_bytes_string W 28 9 5 _ _ _ (by kernel_rfl) (by kernel_rfl) (by kernel_rfl)]
    simp [Conv.bytesToString, ofB]
    rfl
  · rw [run_convert_bytes_string W 28 9 5 _ _ _ (by kernel_rfl) (by kernel_rfl) (by kernel_rfl)]
    have hl : (loadCells ⟨b, f, none⟩ l.length).run Try.prog W = .ok (l.map (Value.int .u8)).toArray W := by
      have := run_loadCells_list (P := Try.prog) (w := W) ⟨b, f, none⟩ (l.map (Value.int .u8)) (fun j v hj => by
        have hj' : j < l.length := by have := (List.getElem?_eq_some_iff.1 hj).1; simpa using this
        rw [Addr.add_lit, a j hj', ← hj]
        simp [hj'])
      simpa using this
    rw [run_bytesToString W _ _ _ _ hl, foldl_push_bytes]
    simp [ofB]

set_option maxHeartbeats 1000000 in
theorem mtext_any (r p : Nat) (bv : Value) (bs : List Int) (w : World) (h : Rdr w r bv bs p) :
    Calls Try.prog 36 #[.pointer (some ⟨r, 0, none⟩)] w (Stp r bv bs w (rdCounted 4000 bs p) (fun l v _ => v = .string (ofB l))) := by
  have HR := Lib.hid h; clear h
  go_enter Try.func36, Try.ntmps36
  go_wp2_with fail
  refine (counted_any 4000 r p bv bs _ HR.out).mono ?_
  rintro e w1 ⟨hB1, ⟨x, q, v, hr, rfl, hP, hR1⟩ | ⟨c, hr, rfl⟩⟩
  · have HRR := Lib.hid hr
    have hcv := conv_seg hP.1
    clear hr
    go_wp2
    go_ret
    exact ⟨hB1, .inl ⟨x, q, _, HRR.out, rfl, rfl, hR1⟩⟩
  · exact bodyPost_panic rfl ⟨hB1, .inr ⟨c, hr, rfl⟩⟩

/-- The number of bytes, the lowest one first. -/
def valB : List Int → Int
  | [] => 0
  | x :: t => x + 256 * valB t
theorem valB_snoc : ∀ (l : List Int) (x : Int), valB (l ++ [x]) = valB l + x * 2 ^ (8 * l.length)
  | [], x => by simp [valB]
  | y :: t, x => by
    have := valB_snoc t x
    simp only [List.cons_append, valB, this, List.length_cons]
    rw [show 8 * (t.length + 1) = 8 * t.length + 8 by omega, Int.pow_add]
    generalize (2 : Int) ^ (8 * t.length) = q
    have : x * (q * 2 ^ 8) = 256 * (x * q) := by rw [Int.mul_left_comm 256, ← Int.mul_comm q 256]; rfl
    rw [this]
    omega
theorem valB_bd : ∀ (l : List Int), Byt l → 0 ≤ valB l ∧ valB l < 2 ^ (8 * l.length)
  | [], _ => by simp [valB]
  | x :: t, h => by
    have h1 := h x (by simp)
    have h2 := valB_bd t (fun y hy => h y (by simp [hy]))
    simp only [valB, List.length_cons]
    rw [show 8 * (t.length + 1) = 8 * t.length + 8 by omega, Int.pow_add]
    generalize (2 : Int) ^ (8 * t.length) = q at *
    omega
theorem valB_low : ∀ (m : Nat) (s : Int), 0 ≤ s → s < 256 ^ m → valB (lowB m s) = s
  | 0, s, h0, h1 => by simp [lowB, valB] at *; omega
  | m + 1, s, h0, h1 => by
    have := valB_low m (s / 256) (by omega) (by rw [Int.pow_succ] at h1; omega)
    simp only [lowB, valB, this]
    omega
theorem low_valB : ∀ (l : List Int), Byt l → lowB l.length (valB l) = l
  | [], _ => rfl
  | x :: t, h => by
    have h1 := h x (by simp)
    have h2 := low_valB t (fun y hy => h y (by simp [hy]))
    simp only [valB, List.length_cons, lowB]
    rw [show (x + 256 * valB t) % 256 = x by omega, show (x + 256 * valB t) / 256 = valB t by omega, h2]
theorem or_pow8 {m : Nat} {acc y : Int} (hm : m ≤ 3) (ha0 : 0 ≤ acc) (ha1 : acc < 2 ^ (8 * m)) (h0 : 0 ≤ y) (h1 : y < 256) :
    bits .or .u32 acc (IntKind.u32.wrap (y * 2 ^ (8 * m))) = acc + y * 2 ^ (8 * m) := by
  have hp : (0 : Int) < 2 ^ (8 * m) := Int.pow_pos (by decide)
  have hb : y * 2 ^ (8 * m) < 4294967296 ∧ (2 : Int) ^ (8 * m) < 4294967296 := by
    have : m = 0 ∨ m = 1 ∨ m = 2 ∨ m = 3 := by omega
    rcases this with rfl | rfl | rfl | rfl
    all_goals simp
    all_goals omega
  have hn : 0 ≤ y * 2 ^ (8 * m) := Int.mul_nonneg h0 (by omega)
  rw [IntKind.wrap_u32', Int.emod_eq_of_lt hn hb.1, u32_or _ _ ha0 (by omega) hn hb.1]
  have e1 : (y * 2 ^ (8 * m)).toNat = y.toNat * 2 ^ (8 * m) := by
    have : y = (y.toNat : Int) := by omega
    rw [this]
    norm_cast
  have e2 : acc.toNat < 2 ^ (8 * m) := by
    have : ((2 ^ (8 * m) : Nat) : Int) = 2 ^ (8 * m) := by norm_cast
    omega
  rw [e1, Nat.or_comm, nat_join (8 * m) _ _ (Nat.mul_mod_left _ _) e2, ← e1]
  omega

def rdSum (bs : List Int) (p : Nat) : Except Int (Int × Nat) := (rdCut bs p 4).map fun y => (valB y.1, y.2)
set_option maxHeartbeats 1000000 in
theorem msum_any (r p : Nat) (bv : Value) (bs : List Int) (w : World) (h : Rdr w r bv bs p) :
    Calls Try.prog 44 #[.pointer (some ⟨r, 0, none⟩)] w (Stp r bv bs w (rdSum bs p) (fun x v _ => v = .int .u32 x)) := by
  have HR := Lib.hid h; clear h
  go_enter Try.func44, Try.ntmps44
  go_wp2_with fail
  refine (cut_any r p 4 bv bs _ HR.out).mono ?_
  rintro e w1 ⟨hB1, ⟨l, q, v, hr, rfl, hP, hR1⟩ | ⟨c, hr, rfl⟩⟩
  · have hres : rdSum bs p = .ok (valB l, q) := by simp [rdSum, hr, Except.map]
    have hl4 : l.length = 4 := by
      unfold rdCut at hr
      split at hr
      · cases hr
      · injection hr with hr; injection hr with hr _
        rw [← hr]; simp; omega
    have hbl : Byt l := by
      unfold rdCut at hr
      split at hr
      · cases hr
      · injection hr with hr; injection hr with hr _
        intro y hy
        rw [← hr] at hy
        exact HR.out.byt y (List.mem_of_mem_drop (List.mem_of_mem_take hy))
    obtain ⟨o, cap, rfl, hc, hm, rfl | ⟨b, f, rfl, hb, ha⟩⟩ := hP.1.shape
    · simp at hl4
    have HRES := Lib.hid hres
    have HL4 := Lib.hid hl4
    have HBL := Lib.hid hbl
    have HA := Lib.hid ha
    rw [hl4]
    clear hr hres hl4 hbl ha hc hP
    go_wp2_with fail
    go_loop [3, 4, 5, 9] (fun s _ _ i => ∃ k : Nat, k ≤ 4 ∧ i = .int .i64 (k : Int) ∧ s = .int .u32 (valB (l.take k))) (fun _ _ _ i => 4 - (intOf i).toNat)
    case atStart => exact ⟨0, by omega, rfl, rfl⟩
    case round =>
      obtain ⟨k, hk, rfl, rfl⟩ := hrel
      by_cases hlt : k < 4
      · have hkl : k < l.length := by have := HL4.out; omega
        have d := HA.out k hkl
        have hx := HBL.out _ (List.getElem_mem hkl)
        have hsn := valB_snoc (l.take k) l[k]
        rw [← List.take_succ_eq_append_getElem hkl] at hsn
        have hbd := valB_bd (l.take k) (fun y hy => HBL.out y (List.mem_of_mem_take hy))
        have htl : (l.take k).length = k := by simp; omega
        rw [htl] at hsn hbd
        obtain ⟨x, hx'⟩ : ∃ x, x = l[k] := ⟨_, rfl⟩
        obtain ⟨acc, hacc⟩ : ∃ acc, acc = valB (l.take k) := ⟨_, rfl⟩
        rw [← hx'] at d hx hsn
        rw [← hacc] at hsn hbd ⊢
        have hor := or_pow8 (m := k) (y := x) (by omega) hbd.1 hbd.2 hx.1 hx.2
        rw [← hsn, IntKind.wrap_u32'] at hor
        obtain ⟨z, hz⟩ : ∃ z, z = valB (l.take (k + 1)) := ⟨_, rfl⟩
        rw [← hz] at hor
        have HZ := Lib.hid hz
        clear hx' hacc hsn htl hz
        go_wp2
        go_round
        case rel => exact ⟨k + 1, by omega, by go_num, by rw [← HZ.out]⟩
        case measure => simp [intOf]; omega
      · go_wp2
        go_ret
        exact ⟨hB1, .inl ⟨_, q, _, HRES.out, rfl, by rw [List.take_of_length_le (by have := HL4.out; omega)]; rfl, hR1⟩⟩
  · exact bodyPost_panic rfl ⟨hB1, .inr ⟨c, by simp [rdSum, hr, Except.map], rfl⟩⟩
end Go.Proofs.Ytdjcdhkdmgkdfaa
