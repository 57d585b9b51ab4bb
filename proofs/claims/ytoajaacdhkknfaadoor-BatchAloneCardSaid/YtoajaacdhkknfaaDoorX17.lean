/- What a line says: said. -/
import Derived.Test.YtoajaacdhkknfaaDoorX16
import Derived.Test.YtoajaacdhkknfaaDoorX14
namespace Go.Proofs.Kit
open Go.RowKit
theorem But.sl {r : Nat} {w w' : World} {v : Value} {l : List Value} (h : But r w w') (hs : Sl w v l) (hr : v.ownBlock ≠ some r) : Sl w' v l := by
  refine ⟨hs.1, ?_⟩
  rcases hs.2 with hs | ⟨b, off, cap, rfl, h2, h3, h4, h5⟩
  · exact .inl hs
  · have hb : b ≠ r := fun e => hr (by rw [e]; rfl)
    exact .inr ⟨b, off, cap, rfl, h2, h3, Nat.lt_of_lt_of_le h4 h.size, fun i hi => (World.cell?_of_block (a := ⟨b, off + i, none⟩) (h.same b hb h4)).trans (h5 i hi)⟩
theorem Blk.froz5 {w : World} {b : Nat} {vs : Array Value} {t : TypeId} (h : Blk w b vs t) : w.frozen? ⟨b, 0, none⟩ = false ∧ w.frozen? ⟨b, 1, none⟩ = false ∧ w.frozen? ⟨b, 2, none⟩ = false ∧ w.frozen? ⟨b, 3, none⟩ = false ∧ w.frozen? ⟨b, 4, none⟩ = false ∧ b < w.heap.size := ⟨h.frozen 0, h.frozen 1, h.frozen 2, h.frozen 3, h.frozen 4, h.lt⟩
abbrev zC : Array Value := #[.int .i64 0, .string ⟨#[]⟩, .string ⟨#[]⟩, .string ⟨#[]⟩, .string ⟨#[]⟩]
/-- What said holds while it puts the parts. -/
structure SD (tC tK tP tD tp : TypeId) (fs : Nat → Nat) (w : World) (g6 g8 D B k n : Nat) (u : ByteArray) (v : Value) (ls : List (List UInt8)) (c : Chg) (W : World) : Prop where
  kR : Blk W w.heap.size zC tC
  k6 : Blk W g6 #[.string u, .slice (some ⟨B + k, 0, none⟩) n n] tK
  k8 : Blk W g8 (putV fs ⟨D, 0, none⟩) tP
  kD : Blk W D (ccA c) tD
  sl : Sl W v (ls.map sv)
  ne : v.ownBlock ≠ some D
  kK : KindsB tp B W
  lD : w.heap.size < D
  low : Below w.heap.size w W
section
variable {tC tK tP tD tp : TypeId} {fs : Nat → Nat} {w W W' : World} {g6 g8 D B k n : Nat} {u : ByteArray} {v : Value} {ls : List (List UInt8)} {c c' : Chg}
theorem SD.later (h : SD tC tK tP tD tp fs w g6 g8 D B k n u v ls c W) (hb : Below W.heap.size W W') : SD tC tK tP tD tp fs w g6 g8 D B k n u v ls c W' :=
  ⟨h.kR.later hb, h.k6.later hb, h.k8.later hb, h.kD.later hb, h.sl.later hb, h.ne, h.kK.later hb, h.lD, below_later h.low hb⟩
theorem SD.put (h : SD tC tK tP tD tp fs w g6 g8 D B k n u v ls c W) (hb : But D W W') (hd : Blk W' D (ccA c') tD) (h6 : tK ≠ tD) (h8 : tP ≠ tD) (hp : tp ≠ tD) : SD tC tK tP tD tp fs w g6 g8 D B k n u v ls c' W' :=
  ⟨hb.blk h.kR (by have := h.lD; omega), hb.blk h.k6 (h.k6.ne_t h.kD h6), hb.blk h.k8 (h.k8.ne_t h.kD h8), hd, hb.sl h.sl h.ne, h.ne, fun j h1 hj => hb.blk (h.kK j h1 hj) ((h.kK j h1 hj).ne_t h.kD hp), h.lD, h.low.trans (hb.below (Nat.le_of_lt h.lD) h.low.size)⟩
end
theorem splitN_len : ∀ (l : List UInt8) (n : Nat), (splitN n l).length ≤ n + 1
  | [], 0 => by simp [splitN]
  | [], n + 1 => by simp [splitN]
  | c :: t, 0 => by simp [splitN]
  | c :: t, n + 1 => by
    rw [splitN]
    split
    · have := splitN_len t n
      simp only [List.length_cons]
      omega
    · have := splitN_len t (n + 1)
      split
      · simp
      · rename_i a r h
        rw [h] at this
        simpa using this
theorem splitN_mem : ∀ (l : List UInt8) (n : Nat) (L : List UInt8), L ∈ splitN n l → L.length ≤ l.length
  | [], 0, L, h => by simp [splitN] at h; simp [h]
  | [], n + 1, L, h => by simp [splitN] at h; simp [h]
  | c :: t, 0, L, h => by simp [splitN] at h; simp [h]
  | c :: t, n + 1, L, h => by
    rw [splitN] at h
    split at h
    · rcases List.mem_cons.1 h with rfl | h
      · simp
      · have := splitN_mem t n L h
        simp only [List.length_cons]
        omega
    · have := splitN_mem t (n + 1)
      split at h
      · rcases List.mem_cons.1 h with rfl | h
        · simp
        · simp at h
      · rename_i a r h2
        rw [h2] at this
        rcases List.mem_cons.1 h with rfl | h
        · have := this a (by simp)
          simpa using this
        · have := this L (by simp [h])
          simp only [List.length_cons]
          omega
theorem no_says {s : List UInt8} (h : ∀ k, stands9 k (splitN 3 s) → rightB (chgOf k (splitN 3 s)) = false) : saysO s = none := saysO_none fun c hc => by
  obtain ⟨k, h1, h2, rfl⟩ := (says_iff s c).1 hc
  rw [h k h1] at h2
  cases h2
theorem part_right {k p : Nat} {c : Chg} (hk : c.kind = k) (h : rightB c = true) (hp : p < 4) : partOk k p (c.part p) = true := by
  obtain ⟨ck, a, b, d, e⟩ := c
  simp only at hk
  subst hk
  by_cases hn : partOk k p ((Chg.mk k a b d e).part p) = true
  · exact hn
  · rw [wrong_of hp (by simpa using hn)] at h
    cases h
end Go.Proofs.Kit
namespace Go.Proofs.YtoajaacdhkknfaaDoor
open Go.RowKit Go.Proofs.Kit Go.Shelf
abbrev FP : Nat → Nat := fun | 0 => 34 | 1 => 35 | 2 => 36 | _ => 37
set_option maxRecDepth 100000 in
set_option maxHeartbeats 8000000 in
theorem said_any (line : ByteArray) (hs : line.size ≤ 281474976710656) (w : World) :
    Calls Tryd.prog 10 #[.string line] w fun e w' => e = .returned (.tuple #[CV ((saysO (bl line)).getD Chg.zero), .bool (saysO (bl line)).isSome]) ∧ Below w.heap.size w w' := by
  have HWD := Lib.hid (fun W => words_any line (by omega) W)
  obtain ⟨so, hso⟩ : ∃ so, so = saysO (bl line) := ⟨_, rfl⟩
  have HSO := Lib.hid hso
  have hlen : ∀ L ∈ splitN 3 (bl line), (lb L).size ≤ 281474976710656 := fun L hL => by have := splitN_mem _ _ L hL; rw [lb_size]; rw [bl_len] at this; omega
  rw [← hso]
  obtain ⟨ls, hls⟩ : ∃ ls, ls = splitN 3 (bl line) := ⟨_, rfl⟩
  rw [← hls] at HWD hlen
  have HLS := Lib.hid hls
  have HLN := Lib.hid hlen
  have hne : ls ≠ [] := by rw [hls]; exact splitN_ne 3 _
  have h0 : 0 < ls.length := List.length_pos_iff.2 hne
  have hl4 : ls.length ≤ 4 := by rw [hls]; exact splitN_len _ 3
  clear hso hls hne hlen hs
  go_enter Tryd.func10, Tryd.ntmps10
  go_wp2_with fail
  refine (HWD.out _).mono ?_
  rintro e w1 ⟨v, rfl, hO, b1⟩
  have gA := (Gr.alloc w (.cells zC 31)).below
  have HR1 := Lib.hid ((Blk.new w zC 31).later b1)
  have HB1 := Lib.hid (below_later gA b1)
  have HO1 := Lib.hid hO.sl
  have HOW := Lib.hid hO
  obtain ⟨g, cap, ev, hcap, hcm, hcells⟩ : ∃ g cap, v = .slice (some ⟨g, 0, none⟩) ls.length cap ∧ ls.length ≤ cap ∧ cap ≤ 9223372036854775807 ∧ ∀ W, Below w1.heap.size w1 W → ∀ i, i < ls.length → W.cell? ⟨g, i, none⟩ = some (sv (wd ls i)) := by
    rcases hO.2 with ⟨_, h2⟩ | ⟨g, cap, cur, e1, hg, hh, h1, h2, h3, h4⟩
    · rw [List.length_map] at h2; omega
    · rw [List.length_map] at e1 h1
      refine ⟨g, cap, e1, h1, by unfold maxLen at h2; omega, fun W hb i hi => ?_⟩
      have hb' : Blk w1 g cur 9 := hh
      rw [(hb'.later hb).cell]
      have h5 : (cur.toList.take (ls.map sv).length)[i]? = some (sv ls[i]) := by rw [Nat.mul_one] at h4; rw [h4]; simp [hi]
      rw [List.getElem?_take_of_lt (by simpa using hi)] at h5
      have h6 : wd ls i = ls[i] := by simp [wd, hi]
      rw [h6]
      simpa using h5
  obtain ⟨m, hm⟩ : ∃ m, m = ls.length := ⟨_, rfl⟩
  rw [← hm] at ev h0 hl4 hcap
  have HM := Lib.hid hm
  subst ev
  have e0 := hcells w1 (Below.refl _ _) 0 (by omega)
  rw [sv] at e0
  have HCL := Lib.hid hcells
  have HHO := Lib.hid hO
  clear hO b1 gA hcells hm
  go_wp2_with fail
  refine (spelt_any (lb (wd ls 0)) _).mono ?_
  rintro e w2 ⟨nk, u, vk, rfl, hsp, b2⟩
  have HB2 := Lib.hid (below_later HB1.out b2)
  have HR2 := Lib.hid (HR1.out.later b2)
  have HO2 := Lib.hid (HHO.out.later b2)
  have HC2 := Lib.hid (fun W (hb : Below w2.heap.size w2 W) i (h : i < m) => HCL.out W (below_later b2 hb) i (by have := HM.out; omega))
  clear e0 HB1 HR1 HO1 HOW HHO HCL b2 HWD
  obtain ⟨ok, nn, ck, ek⟩ : ∃ o n c, vk = .slice o n c := by
    rcases hsp with ⟨k, B, _, _, _, _, _, rfl, _⟩ | ⟨_, _, _, rfl⟩
    · exact ⟨_, _, _, rfl⟩
    · exact ⟨_, _, _, rfl⟩
  subst ek
  have HSP := Lib.hid hsp
  clear hsp
  have HKO := Lib.hid (fun W => biskind_any nk W)
  go_wp2_with fail
  refine (HKO.out _).mono ?_
  rintro e w3 ⟨rfl, rfl⟩
  obtain ⟨W3, hW3⟩ : ∃ W3, W3 = w2.alloc (.cells #[.string u, .slice ok nn ck] 59) := ⟨_, rfl⟩
  have g3 : Below w2.heap.size w2 W3 := by rw [hW3]; exact (Gr.alloc _ _).below
  have HK6 := Lib.hid (show Blk W3 w2.heap.size #[.string u, .slice ok nn ck] 59 by rw [hW3]; exact Blk.new _ _ _)
  have HB3 := Lib.hid (below_later HB2.out g3)
  have HR3 := Lib.hid (HR2.out.later g3)
  have HO3 := Lib.hid (HO2.out.later g3)
  have HC3 := Lib.hid (fun W (hb : Below W3.heap.size W3 W) i (h : i < m) => HC2.out W (below_later g3 hb) i h)
  have HG3 := Lib.hid g3
  rw [← hW3]
  clear hW3 g3 HB2 HR2 HO2 HC2 HKO
  rcases HSP.out with ⟨k, B, h1, h8, hw0, rfl, hu, hv, hkb⟩ | ⟨hno, rfl, rfl, hv⟩
  · rw [show kindB (k : Int) = true by simp [kindB]; omega]
    have HKB := Lib.hid (hkb.later HG3.out)
    injection hv with e1 e2 e3
    subst e1
    obtain rfl : nn = ck := e2.trans e3.symm
    clear e3
    have HNN := Lib.hid e2
    obtain ⟨n, hn⟩ : ∃ n, n = nn := ⟨_, rfl⟩
    subst hn
    have HW0 := Lib.hid (show wd ls 0 = wordN k from hw0)
    have HU := Lib.hid hu
    have h18 := Lib.hid (And.intro h1 h8)
    have hn3 : n ≤ 3 := by rw [e2]; exact hasL_len k
    clear hw0 hu e2 hkb HSP h1 h8
    by_cases hl : m = 1 + n
    · skip
      have d1 : ((m : Int) != 1 + (n : Int)) = false := by simp; omega
      have HL := Lib.hid hl
      obtain ⟨f0, f1, lf⟩ := HK6.out.two
      clear hl
      go_wp2_with fail
      refine (puts_any _ _).mono ?_
      rintro e w4 ⟨rfl, g4⟩
      obtain ⟨W4, hW4⟩ : ∃ W4, W4 = W3.alloc (.cells #[.int .i64 (k : Int), .string ⟨#[]⟩, .string ⟨#[]⟩, .string ⟨#[]⟩, .string ⟨#[]⟩] 65) := ⟨_, rfl⟩
      rw [← hW4] at g4
      have g34 : Below W3.heap.size W3 W4 := by rw [hW4]; exact (Gr.alloc _ _).below
      have kD4 : Blk W4 W3.heap.size (ccA (drf k ls 0)) 65 := by rw [hW4]; exact Blk.new _ _ _
      have g3w := below_later g34 g4.below
      have kD5 := (kD4.gr g4).alloc (.cells #[.func (.func 34) #[.pointer (some ⟨W3.heap.size, 0, none⟩)] #[], .func (.func 35) #[.pointer (some ⟨W3.heap.size, 0, none⟩)] #[], .func (.func 36) #[.pointer (some ⟨W3.heap.size, 0, none⟩)] #[], .func (.func 37) #[.pointer (some ⟨W3.heap.size, 0, none⟩)] #[]] 67)
      obtain ⟨W5, hW5⟩ : ∃ W5, W5 = w4.alloc (.cells #[.func (.func 34) #[.pointer (some ⟨W3.heap.size, 0, none⟩)] #[], .func (.func 35) #[.pointer (some ⟨W3.heap.size, 0, none⟩)] #[], .func (.func 36) #[.pointer (some ⟨W3.heap.size, 0, none⟩)] #[], .func (.func 37) #[.pointer (some ⟨W3.heap.size, 0, none⟩)] #[]] 67) := ⟨_, rfl⟩
      rw [← hW5] at kD5
      have g35 : Below W3.heap.size W3 W5 := by rw [hW5]; exact below_later g3w (Gr.alloc _ _).below
      have k8 : Blk W5 w4.heap.size (putV FP ⟨W3.heap.size, 0, none⟩) 67 := by rw [hW5]; exact Blk.new _ _ _
      have hO5 := HO3.out.later g35
      have hDlt : w.heap.size < W3.heap.size := HR3.out.lt
      have hSD : SD 31 59 67 65 69 FP w w2.heap.size w4.heap.size W3.heap.size B k n u (.slice (some ⟨g, 0, none⟩) m cap) ls (drf k ls 0) W5 :=
        ⟨HR3.out.later g35, HK6.out.later g35, k8, kD5, hO5.sl, hO5.ne_blk kD5 (by decide), HKB.out.later g35, hDlt, below_later HB3.out g35⟩
      obtain ⟨D, hD⟩ : ∃ D, D = W3.heap.size := ⟨_, rfl⟩
      have HS5 := Lib.hid hSD
      have hgD : g ≠ D := by
        have := hO5.ne_blk kD5 (by decide)
        rw [← hD] at this
        intro e
        exact this (by rw [e]; rfl)
      have HC5 := Lib.hid (fun W (hb : Below W3.heap.size W3 W) i (h : i < m) => HC3.out W hb i h)
      rw [← hD] at HS5 ⊢
      have hc5 : ∀ i, i < m → W5.cell? ⟨g, i, none⟩ = some (sv (wd ls i)) := HC3.out W5 g35
      have HC6 := Lib.hid hc5
      have hgl : g < W5.heap.size := (hO5.lt g rfl).2
      obtain ⟨g8, hg8⟩ : ∃ g8, g8 = w4.heap.size := ⟨_, rfl⟩
      rw [← hg8] at HS5
      obtain ⟨p0, p1, pl⟩ := (HK6.out.later g3w).two
      clear hc5 hSD hDlt hO5 k8 kD5 g3w kD4 g34 HB3 HR3 HO3 HC3 HC5 HKB HK6 HG3 hW4
      go_wp2
      rw [← hW5, ← hg8, ← hD]
      clear hW5 hg8 g35 g4 f0 f1 lf d1 hD p0 p1 pl
      obtain ⟨W6, hW6⟩ : ∃ W6, W6 = W5 := ⟨_, rfl⟩
      go_loopw [44] (fun s44 wr => ∃ j : Nat, j ≤ n ∧ s44 = .int .i64 (j : Int) ∧ Hid (SD 31 59 67 65 69 FP w w2.heap.size g8 D B k n u (.slice (some ⟨g, 0, none⟩) m cap) ls (drf k ls j) wr) ∧ Hid (But D W6 wr) ∧ Hid (∀ i, i < j → okP (hasN k i) (wd ls (1 + i)) = true ∧ partOk k (hasN k i) (readP (hasN k i) (wd ls (1 + i))) = true)) (fun s44 _ => 4 - (intOf s44).toNat)
      case atStart => exact ⟨0, by omega, rfl, HS5, Lib.hid (hW6 ▸ But.refl _ _), Lib.hid (fun i h => by omega)⟩
      case round =>
        obtain ⟨j, hj, rfl, HS, HBU, HOK⟩ := hrel
        obtain ⟨f0, f1, lf⟩ := HS.out.k6.two
        by_cases hlt : j < n
        · have hjl : j < (hasL k).length := by have := HNN.out; omega
          obtain ⟨p, hp⟩ : ∃ p, p = hasN k j := ⟨_, rfl⟩
          have hp4 : p < 4 := by rw [hp]; exact hasN_lt k j
          have c0 : wr.cell? ⟨B + k, j, none⟩ = some (.int .i64 (p : Int)) := by
            rw [(HS.out.kK k h18.out.1 h18.out.2).cell, List.getElem?_toArray, List.getElem?_map, List.getElem?_eq_getElem hjl, hasN_get hjl, ← hp]
            rfl
          have c1 : wr.cell? ⟨g, 1 + j, none⟩ = some (.string (lb (wd ls (1 + j)))) := by
            have hm1 : 1 + j < m := by have := HL.out; omega
            have h1 := HC6.out (1 + j) hm1
            rw [← hW6] at h1
            exact (World.cell?_of_block (a := ⟨g, 1 + j, none⟩) (HBU.out.same g hgD (by rw [hW6]; exact hgl))).trans h1
          have hmem : wd ls (1 + j) ∈ ls := by
            have hm1 : 1 + j < ls.length := by have := HL.out; have := HM.out; omega
            have : wd ls (1 + j) = ls[1 + j] := by simp [wd, hm1]
            rw [this]
            exact List.getElem_mem hm1
          have hsz := HLN.out _ hmem
          have hjm : 1 + j < m := by have := HL.out; omega
          have hji : (1 : Int) + (j : Int) < (m : Int) := by omega
          have HRD := Lib.hid (fun W => read_any p (lb (wd ls (1 + j))) (by omega) W)
          rw [bl_lb] at HRD
          obtain ⟨s, hs⟩ : ∃ s, s = readP p (wd ls (1 + j)) := ⟨_, rfl⟩
          obtain ⟨b, hb⟩ : ∃ b, b = okP p (wd ls (1 + j)) := ⟨_, rfl⟩
          rw [← hs, ← hb] at HRD
          have hsz2 : s.size ≤ 281474976710656 := by
            rw [hs, readP]
            split
            · rw [lb_size] at hsz ⊢
              refine Nat.le_trans ?_ hsz
              unfold trimQ Lib.trimSuffix Lib.trimPrefix
              split <;> split <;> simp <;> omega
            · exact hsz
          have HAL := Lib.hid (fun W (hk : KindsB 69 B W) => allows_any B k h18.out.1 h18.out.2 u p hp4 s (by omega) W hk.at)
          simp only [hasV, ← HNN.out] at HAL
          obtain ⟨a, ha⟩ : ∃ a, a = partOk k p s := ⟨_, rfl⟩
          rw [← ha] at HAL
          have HSV := Lib.hid hs
          have HBV := Lib.hid hb
          have HAV := Lib.hid ha
          have HP := Lib.hid hp
          have HJL := Lib.hid hjl
          clear hp hs hb ha hmem hsz hjl
          go_wp2_with fail
          refine (HRD.out _).mono ?_
          rintro e w' ⟨rfl, rfl⟩
          cases b
          · obtain rfl : so = none := by
              rw [HSO.out]
              refine no_says fun k' hst => ?_
              rw [← HLS.out] at hst
              have ek : k' = k := wordN_inj hst.1 hst.2.1 h18.out.1 h18.out.2 (hst.2.2.1.symm.trans HW0.out)
              subst ek
              have h5 := (stands_part hst HJL.out).1
              rw [← HP.out, ← HBV.out] at h5
              cases h5
            clear c0 c1
            obtain ⟨r0, r1, r2, r3, r4⟩ := (HS.out.kR).five
            obtain ⟨q0, q1, q2, q3, q4, ql⟩ := (HS.out.kR).froz5
            have KF := (((((HS.out.kR).set 0 (.int .i64 0)).set 1 (.string ⟨#[]⟩)).set 2 (.string ⟨#[]⟩)).set 3 (.string ⟨#[]⟩)).set 4 (.string ⟨#[]⟩)
            simp only [List.setIfInBounds_toArray, List.set_cons_zero, List.set_cons_succ] at KF
            have HKF := Lib.hid KF
            clear KF
            go_wp2
            obtain ⟨y0, y1, y2, y3, y4⟩ := HKF.out.five
            exact bodyPost_ret (v := .tuple #[CV Chg.zero, .bool false]) (by simp [results, Tryd.results10, go_sem, y0, y1, y2, y3, y4, Chg.zero]) rfl ⟨rfl, (((((HS.out.low).setCell (Nat.le_refl _) _).setCell (Nat.le_refl _) _).setCell (Nat.le_refl _) _).setCell (Nat.le_refl _) _).setCell (Nat.le_refl _) _⟩
          · go_wp2_with fail
            refine (HAL.out _ HS.out.kK).mono ?_
            rintro e w7 ⟨rfl, g7⟩
            have HS7 := Lib.hid (HS.out.later g7.below)
            have HBU7 := Lib.hid (HBU.out.later g7.below)
            clear HS HBU g7 c0 c1 f0 f1 lf
            cases a
            · obtain rfl : so = none := by
                rw [HSO.out]
                refine no_says fun k' hst => ?_
                rw [← HLS.out] at hst ⊢
                have ek : k' = k := wordN_inj hst.1 hst.2.1 h18.out.1 h18.out.2 (hst.2.2.1.symm.trans HW0.out)
                subst ek
                by_cases hr : rightB (chgOf k' ls) = true
                · have h5 := (stands_part hst HJL.out).2
                  have h6 := part_right (k := k') rfl hr (hasN_lt k' j)
                  rw [h5, ← HP.out, ← HSV.out, ← HAV.out] at h6
                  cases h6
                · simpa using hr
              obtain ⟨r0, r1, r2, r3, r4⟩ := (HS7.out.kR).five
              obtain ⟨q0, q1, q2, q3, q4, ql⟩ := (HS7.out.kR).froz5
              have KF := (((((HS7.out.kR).set 0 (.int .i64 0)).set 1 (.string ⟨#[]⟩)).set 2 (.string ⟨#[]⟩)).set 3 (.string ⟨#[]⟩)).set 4 (.string ⟨#[]⟩)
              simp only [List.setIfInBounds_toArray, List.set_cons_zero, List.set_cons_succ] at KF
              have HKF := Lib.hid KF
              clear KF
              go_wp2
              obtain ⟨y0, y1, y2, y3, y4⟩ := HKF.out.five
              exact bodyPost_ret (v := .tuple #[CV Chg.zero, .bool false]) (by simp [results, Tryd.results10, go_sem, y0, y1, y2, y3, y4, Chg.zero]) rfl ⟨rfl, (((((HS7.out.low).setCell (Nat.le_refl _) _).setCell (Nat.le_refl _) _).setCell (Nat.le_refl _) _).setCell (Nat.le_refl _) _).setCell (Nat.le_refl _) _⟩
            · have HOK2 := Lib.hid (show ∀ i, i < j + 1 → okP (hasN k i) (wd ls (1 + i)) = true ∧ partOk k (hasN k i) (readP (hasN k i) (wd ls (1 + i))) = true from fun i hi => by
                by_cases e : i = j
                · subst e
                  rw [← HP.out, ← HSV.out]
                  exact ⟨HBV.out.symm, HAV.out.symm⟩
                · exact HOK.out i (by omega))
              have HDR := Lib.hid (show setP (drf k ls j) p s = drf k ls (j + 1) by rw [drf, ← HP.out, ← HSV.out])
              rcases (by omega : p = 0 ∨ p = 1 ∨ p = 2 ∨ p = 3) with rfl | rfl | rfl | rfl
              · have c8 : w7.cell? ⟨g8, 0, none⟩ = some (.func (.func 34) #[.pointer (some ⟨D, 0, none⟩)] #[]) := HS7.out.k8.cell 0
                have l8 := HS7.out.k8.lt
                have HPU := Lib.hid (put0_any D (drf k ls j) s hsz2 w7 HS7.out.kD)
                rw [HDR.out] at HPU
                clear hsz2
                go_wp2_with fail
                refine HPU.out.mono ?_
                rintro e w8 ⟨rfl, kd, hbu⟩
                have HS8 := Lib.hid (HS7.out.put hbu kd (by decide) (by decide) (by decide))
                have HBU8 := Lib.hid (HBU7.out.trans hbu)
                clear kd hbu c8 l8 HPU
                go_wp2
                go_roundw
                case rel => exact ⟨j + 1, by omega, by go_num, HS8, HBU8, HOK2⟩
                case measure => simp [intOf]; omega
              · have c8 : w7.cell? ⟨g8, 1, none⟩ = some (.func (.func 35) #[.pointer (some ⟨D, 0, none⟩)] #[]) := HS7.out.k8.cell 1
                have l8 := HS7.out.k8.lt
                have HPU := Lib.hid (put1_any D (drf k ls j) s hsz2 w7 HS7.out.kD)
                rw [HDR.out] at HPU
                clear hsz2
                go_wp2_with fail
                refine HPU.out.mono ?_
                rintro e w8 ⟨rfl, kd, hbu⟩
                have HS8 := Lib.hid (HS7.out.put hbu kd (by decide) (by decide) (by decide))
                have HBU8 := Lib.hid (HBU7.out.trans hbu)
                clear kd hbu c8 l8 HPU
                go_wp2
                go_roundw
                case rel => exact ⟨j + 1, by omega, by go_num, HS8, HBU8, HOK2⟩
                case measure => simp [intOf]; omega
              · have c8 : w7.cell? ⟨g8, 2, none⟩ = some (.func (.func 36) #[.pointer (some ⟨D, 0, none⟩)] #[]) := HS7.out.k8.cell 2
                have l8 := HS7.out.k8.lt
                have HPU := Lib.hid (put2_any D (drf k ls j) s hsz2 w7 HS7.out.kD)
                rw [HDR.out] at HPU
                clear hsz2
                go_wp2_with fail
                refine HPU.out.mono ?_
                rintro e w8 ⟨rfl, kd, hbu⟩
                have HS8 := Lib.hid (HS7.out.put hbu kd (by decide) (by decide) (by decide))
                have HBU8 := Lib.hid (HBU7.out.trans hbu)
                clear kd hbu c8 l8 HPU
                go_wp2
                go_roundw
                case rel => exact ⟨j + 1, by omega, by go_num, HS8, HBU8, HOK2⟩
                case measure => simp [intOf]; omega
              · have c8 : w7.cell? ⟨g8, 3, none⟩ = some (.func (.func 37) #[.pointer (some ⟨D, 0, none⟩)] #[]) := HS7.out.k8.cell 3
                have l8 := HS7.out.k8.lt
                have HPU := Lib.hid (put3_any D (drf k ls j) s hsz2 w7 HS7.out.kD)
                rw [HDR.out] at HPU
                clear hsz2
                go_wp2_with fail
                refine HPU.out.mono ?_
                rintro e w8 ⟨rfl, kd, hbu⟩
                have HS8 := Lib.hid (HS7.out.put hbu kd (by decide) (by decide) (by decide))
                have HBU8 := Lib.hid (HBU7.out.trans hbu)
                clear kd hbu c8 l8 HPU
                go_wp2
                go_roundw
                case rel => exact ⟨j + 1, by omega, by go_num, HS8, HBU8, HOK2⟩
                case measure => simp [intOf]; omega
        · obtain rfl : j = n := by omega
          have hend := drf_end h18.out.1 h18.out.2 HW0.out (by rw [← hasL_cnt h18.out.1 h18.out.2, ← HNN.out, ← HM.out]; exact HL.out) (fun i hi => (HOK.out i (by rw [HNN.out]; exact hi)).1)
          have hrt := right_parts9 hend.1 (fun i hi => (HOK.out i (by rw [HNN.out]; exact hi)).2)
          have hsay : so = some (drf k ls j) := by
            rw [HSO.out]
            have h5 : drf k ls j = chgOf k ls := by rw [HNN.out]; exact hend.2
            have h6 := hend.1
            rw [h5]
            rw [HLS.out] at h6 hrt ⊢
            exact saysO_some (words_say h6 hrt)
          obtain ⟨c, hc⟩ : ∃ c, c = drf k ls j := ⟨_, rfl⟩
          have HSX := HS.out
          rw [← hc] at HSX hsay
          subst hsay
          have HS9 := Lib.hid HSX
          clear hend hrt hc HS HSX HOK
          obtain ⟨x0, x1, x2, x3, x4⟩ := c
          obtain ⟨d0, d1, d2, d3, d4⟩ := HS9.out.kD.five
          simp only at d0 d1 d2 d3 d4
          have ld := HS9.out.kD.lt
          obtain ⟨r0, r1, r2, r3, r4⟩ := HS9.out.kR.five
          obtain ⟨q0, q1, q2, q3, q4, ql⟩ := HS9.out.kR.froz5
          have KF := ((((HS9.out.kR.set 0 (.int .i64 x0)).set 1 (.string x1)).set 2 (.string x2)).set 3 (.string x3)).set 4 (.string x4)
          simp only [List.setIfInBounds_toArray, List.set_cons_zero, List.set_cons_succ] at KF
          have HKF := Lib.hid KF
          clear KF
          go_wp2
          obtain ⟨y0, y1, y2, y3, y4⟩ := HKF.out.five
          exact bodyPost_ret (v := .tuple #[CV ⟨x0, x1, x2, x3, x4⟩, .bool true]) (by simp [results, Tryd.results10, go_sem, y0, y1, y2, y3, y4]) rfl ⟨rfl, ((((HS9.out.low.setCell (Nat.le_refl _) _).setCell (Nat.le_refl _) _).setCell (Nat.le_refl _) _).setCell (Nat.le_refl _) _).setCell (Nat.le_refl _) _⟩
    · have d1 : ((m : Int) != 1 + (n : Int)) = true := by simp; omega
      obtain rfl : so = none := by
        rw [HSO.out]
        refine no_says fun k' hst => ?_
        rw [← HLS.out] at hst
        have ek : k' = k := wordN_inj hst.1 hst.2.1 h18.out.1 h18.out.2 (hst.2.2.1.symm.trans HW0.out)
        subst ek
        have h4 := hst.2.2.2.1
        rw [← HM.out, ← hasL_cnt hst.1 hst.2.1, ← HNN.out] at h4
        omega
      obtain ⟨f0, f1, lf⟩ := HK6.out.two
      clear hl
      obtain ⟨r0, r1, r2, r3, r4⟩ := (HR3.out).five
      obtain ⟨q0, q1, q2, q3, q4, ql⟩ := (HR3.out).froz5
      have KF := (((((HR3.out).set 0 (.int .i64 0)).set 1 (.string ⟨#[]⟩)).set 2 (.string ⟨#[]⟩)).set 3 (.string ⟨#[]⟩)).set 4 (.string ⟨#[]⟩)
      simp only [List.setIfInBounds_toArray, List.set_cons_zero, List.set_cons_succ] at KF
      have HKF := Lib.hid KF
      clear KF
      go_wp2
      obtain ⟨y0, y1, y2, y3, y4⟩ := HKF.out.five
      exact bodyPost_ret (v := .tuple #[CV Chg.zero, .bool false]) (by simp [results, Tryd.results10, go_sem, y0, y1, y2, y3, y4, Chg.zero]) rfl ⟨rfl, (((((HB3.out).setCell (Nat.le_refl _) _).setCell (Nat.le_refl _) _).setCell (Nat.le_refl _) _).setCell (Nat.le_refl _) _).setCell (Nat.le_refl _) _⟩
  · rw [show kindB 0 = false from rfl]
    have HNO := Lib.hid hno
    obtain rfl : so = none := by
      rw [HSO.out]
      refine no_says fun k hst => ?_
      rw [← HLS.out] at hst
      exact absurd hst.2.2.1 (HNO.out k hst.1 hst.2.1)
    clear hno hv HSP
    obtain ⟨r0, r1, r2, r3, r4⟩ := (HR3.out).five
    obtain ⟨q0, q1, q2, q3, q4, ql⟩ := (HR3.out).froz5
    have KF := (((((HR3.out).set 0 (.int .i64 0)).set 1 (.string ⟨#[]⟩)).set 2 (.string ⟨#[]⟩)).set 3 (.string ⟨#[]⟩)).set 4 (.string ⟨#[]⟩)
    simp only [List.setIfInBounds_toArray, List.set_cons_zero, List.set_cons_succ] at KF
    have HKF := Lib.hid KF
    clear KF
    go_wp2
    obtain ⟨y0, y1, y2, y3, y4⟩ := HKF.out.five
    exact bodyPost_ret (v := .tuple #[CV Chg.zero, .bool false]) (by simp [results, Tryd.results10, go_sem, y0, y1, y2, y3, y4, Chg.zero]) rfl ⟨rfl, (((((HB3.out).setCell (Nat.le_refl _) _).setCell (Nat.le_refl _) _).setCell (Nat.le_refl _) _).setCell (Nat.le_refl _) _).setCell (Nat.le_refl _) _⟩
end Go.Proofs.YtoajaacdhkknfaaDoor

