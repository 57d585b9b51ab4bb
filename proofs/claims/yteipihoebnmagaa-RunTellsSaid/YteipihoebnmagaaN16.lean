/- slices.Reverse of pairs; RunTurns: the law's walk. -/
import Derived.Test.YteipihoebnmagaaN15
import Derived.Shelf.SlicesQ.Reverse
namespace Go.Proofs
open Go.Shelf
def Try.revP_ren : Go.Shelf.Ren := ⟨fun | 35 => 34 | n => n, fun | 0 => 0 | 3 => 3 | 4 => 4 | 22 => 22 | 23 => 30 | n => n, fun | n => n⟩
theorem Try.revP : Go.Proofs.SlLaysE0.n35 Try.prog Try.revP_ren := {
  mixed := by kernel_rfl
  f35 := ⟨Try.f34.name, by decide, Try.func34.trans (congrArg some (by kernel_rfl))⟩
  t0 := Try.underlying0
  a0 := Try.isAgg0
  z0 := Try.sizeOf0
  v0 := Try.zeroValue0
  t3 := Try.underlying3
  a3 := Try.isAgg3
  z3 := Try.sizeOf3
  v3 := Try.zeroValue3
  t4 := Try.underlying4
  a4 := Try.isAgg4
  z4 := Try.sizeOf4
  v4 := Try.zeroValue4
  t22 := Try.underlying22
  a22 := Try.isAgg22
  z22 := Try.sizeOf22
  v22 := Try.zeroValue22 }
end Go.Proofs
namespace Go.Proofs.Yteipihoebnmagaa
open Go.RowKit Go.Proofs.Kit Go.Shelf Go.Lib
theorem own_sorted (B g cap : Nat) (cur : Array Value) (l : List Pr) (w : World) (hB : B ≤ g) (hb : Blk w g cur 30) (h1 : l.length ≤ cap) (h2 : cap ≤ 9223372036854775807) (h3 : cur.size = cap * 2) (h4 : cur.toList.take (l.length * 2) = flat l) (hl62 : l.length ≤ 4611686018427387903)
    (d' : Array Pr) (hs : d'.size = l.length) (n : Nat) (os : Array Obj) : OwnP 30 B (sortWorldK encP 2 w g 0 n d' os) (.slice (some ⟨g, 0, none⟩) l.length cap) d'.toList ∧ Below B w (sortWorldK encP 2 w g 0 n d' os) := by
  have hH := holds_blk hb h3 h1 h4
  have hH' := holds_sorted w g n d' _ os hb.lt hH (by simpa using hs)
  obtain ⟨cur', hcs, hb'⟩ := blk_sorted w g n d' os hb
  have hlen : d'.toList.length = l.length := by simpa using hs
  refine ⟨?_, below_sorted w B g n d' os hB hb.lt⟩
  have := OwnP.of_blk (t := 30) (l := d'.toList) (cap := cap) hB hb' (by omega) h2 (by omega) (by omega) (by
    apply List.ext_getElem?
    intro j
    by_cases hj : j < d'.toList.length * 2
    · rw [List.getElem?_take_of_lt hj]
      have hk : j / 2 < d'.size := by simp at hj; omega
      have e0 := (hH'.cell (i := j / 2) (c := 0) hk (by decide)).1
      have e1 := (hH'.cell (i := j / 2) (c := 1) hk (by decide)).1
      rw [hb'.cell, getElem!_pos d' _ hk] at e0 e1
      have hf := flat_get d'.toList (j / 2) (by simpa using hk)
      rcases Nat.mod_two_eq_zero_or_one j with h' | h'
      · have e : j = j / 2 * 2 := by omega
        rw [e, hf.1]
        simpa [encP] using e0
      · have e : j = j / 2 * 2 + 1 := by omega
        rw [e, hf.2]
        simpa [encP] using e1
    · rw [List.getElem?_eq_none (by simp; omega), List.getElem?_eq_none (by rw [flat_length]; omega)])
  rw [hlen] at this
  exact this
theorem reverse_own (B : Nat) (v : Value) (l : List Pr) (w : World) (hv : OwnP 30 B w v l) :
    Calls Try.prog 34 #[v] w fun e w' => e = .returned (.tuple #[]) ∧ OwnP 30 B w' v l.reverse ∧ Below B w w' ∧ ∀ k, v.ownBlock ≠ some k → k < w.heap.size → w'.heap[k]? = w.heap[k]? := by
  by_cases h0 : l = []
  · subst h0
    obtain ⟨o, c, rfl⟩ := hv.shape
    refine (AnyQ.slices_Reverse_empty Try.revP o c w).mono ?_
    rintro e w' ⟨rfl, rfl⟩
    exact ⟨rfl, hv, Below.refl _ _, fun _ _ _ => rfl⟩
  · have hl62 := hv.1
    obtain ⟨g, cap, cur, rfl, h1, h2, h3, hB, hb, h4⟩ := hv.blk (List.length_pos_iff.2 h0)
    refine (AnyQ.slices_Reverse Try.revP 2 Try.isAgg30 Try.sizeOf30 encP (fun _ => rfl) (fun x v hv => by simp [encP] at hv; rcases hv with rfl | rfl <;> rfl) g 0 cap l.toArray w (holds_blk hb h3 h1 h4) (by simp; omega)).mono ?_
    rintro e w' ⟨rfl, n, rfl⟩
    obtain ⟨h5, h6⟩ := own_sorted B g cap cur l w hB hb h1 h2 h3 h4 hl62 l.toArray.reverse (by simp) n #[]
    have e : sortWorldK encP 2 w g 0 n l.toArray.reverse #[] = Sort.putRowK encP 2 (Sort.ahead w n) g 0 l.toArray.reverse := by unfold sortWorldK; rw [Sort.grow_empty]
    have h7 := fun k hk hg => heap_sorted w g n l.toArray.reverse #[] k hk hg
    rw [e] at h5 h6 h7
    refine ⟨rfl, by simpa using h5, h6, fun k hk hlt => h7 k hlt (fun q => hk (by rw [q]; rfl))⟩
theorem ofP_reverse (l : List Pr) : ofP l.reverse = ofP l := (ofP_of (ofP_run _) fun q => by rw [ofP_mem]; simp)
theorem turn_facts {a : List Pr} (hr : Run a) (hs : a.length ≤ 1000) : ckP a = 0 ∧ Run (turnP a) ∧ (turnP a).length = a.length ∧ turnP (turnP a) = a ∧ ckP (turnP a) = 0 ∧ ∀ p ∈ a, hasP (turnP a) (p.2, p.1) = true := by
  have hok : okP a := ⟨hr, by omega⟩
  have et : turnP a = ofP (a.map swapP) := if_pos hok
  have hnd : (a.map swapP).Nodup := List.pairwise_map.2 (hr.nodup.imp fun {a b} (hab : a ≠ b) e => hab (swapP_inj e))
  have hlen : (turnP a).length = a.length := by
    have hp : (ofP (a.map swapP)).Perm (a.map swapP) := (List.perm_ext_iff_of_nodup (ofP_run _).nodup hnd).2 (ofP_mem _)
    rw [et, hp.length_eq, List.length_map]
  have hrt : Run (turnP a) := by rw [et]; exact ofP_run _
  have hokt : okP (turnP a) := ⟨hrt, by omega⟩
  have ett : turnP (turnP a) = ofP ((turnP a).map swapP) := if_pos hokt
  refine ⟨ckP_yes hok, hrt, hlen, ?_, ckP_yes hokt, fun p hp => ?_⟩
  · rw [ett]
    refine (ofP_of hr fun q => ?_).symm
    rw [List.mem_map]
    constructor
    · intro h
      exact ⟨swapP q, by rw [et, ofP_mem]; exact List.mem_map_of_mem h, rfl⟩
    · rintro ⟨r, hr', rfl⟩
      rw [et, ofP_mem] at hr'
      obtain ⟨s, hs', rfl⟩ := List.mem_map.1 hr'
      exact hs'
  · rw [hasP_of hokt, decide_eq_true_eq, et, ofP_mem]
    exact List.mem_map.2 ⟨p, hp, rfl⟩
set_option maxRecDepth 100000 in
set_option maxHeartbeats 4000000 in
theorem turns_true (ox : Option Addr) (nx cx : Nat) (X : List Pr) (w : World)
    (hlx : X.length = nx) (hcx : nx ≤ cx) (hmx : cx ≤ 9223372036854775807) (hx : ArgP w ox cx X) :
    Calls Try.prog 7 #[.slice ox nx cx] w fun e w' => e = .returned (.bool true) ∧ Below w.heap.size w w' := by
  have HLX := Lib.hid hlx
  have HX := Lib.hid hx
  clear hlx hx
  obtain ⟨L, hL⟩ : ∃ L, L = X.take 40 := ⟨_, rfl⟩
  have hL40 : L.length ≤ 40 := by rw [hL]; simp; omega
  have HL := Lib.hid hL
  clear hL
  go_enter Try.func7, Try.ntmps7
  go_wp2_with fail
  refine (wakes_true _).mono ?_
  rintro e w1 ⟨rfl, B1⟩
  go_wp2_with fail
  refine (fewP_any ox nx cx X _ HLX.out hcx hmx (HX.out.later B1)).mono ?_
  rw [← HL.out]
  rintro e w2 ⟨v, rfl, o2, b2⟩
  have B2 := below_later B1 b2
  have hlw := o2.lt
  have O2 := Lib.hid o2
  obtain ⟨p2, c2, rfl⟩ := o2.shape
  have hB1 := B1.size
  clear o2 b2 HX HLX
  have hflen := ofP_len L
  have hrun := ofP_run L
  obtain ⟨h1, h2, h3, h4, h5, h6⟩ := turn_facts hrun (by omega)
  have hrev := ofP_reverse L
  obtain ⟨A, hA⟩ : ∃ A, A = ofP L := ⟨_, rfl⟩
  obtain ⟨T, hT⟩ : ∃ T, T = turnP A := ⟨_, rfl⟩
  rw [← hA] at hflen h1 h2 h3 h4 h5 h6 hrev
  rw [← hT] at h2 h3 h4 h5 h6
  have HA := Lib.hid hA
  have HT := Lib.hid hT
  have H1 := Lib.hid h1
  have H3 := Lib.hid h3
  have H4 := Lib.hid h4
  have H5 := Lib.hid h5
  have H6 := Lib.hid h6
  have HREV := Lib.hid hrev
  have HLW := Lib.hid hlw
  clear hA hT h1 h2 h3 h4 h5 h6 hrev hrun hlw
  go_wp2_with fail
  refine (of_any _ L _ O2.out.seg (by omega)).mono ?_
  rw [← HA.out]
  rintro e w3 ⟨va, rfl, oa, b3⟩
  have B3 := below_later B2 b3
  have OA := Lib.hid oa
  have O3 := Lib.hid (O2.out.later b3)
  obtain ⟨pa, ca, rfl⟩ := oa.shape
  clear oa b3 O2
  go_wp2_with fail
  refine (reverse_own _ _ L _ O3.out).mono ?_
  rintro e w4 ⟨rfl, o4, b4, hk4⟩
  have B4 : Below w.heap.size w w4 := B3.trans (b4.mono hB1)
  have OA4 : OwnP 30 w2.heap.size w4 (.slice pa A.length ca) A := OA.out.same fun g hg => hk4 g (fun e => by have h1 := (HLW.out g e).2; have h2 := (OA.out.lt g hg).1; omega) (OA.out.lt g hg).2
  have OA := Lib.hid OA4.seg
  have O4 := Lib.hid o4.seg
  clear OA4 o4 b4 hk4 O3 B3
  obtain ⟨LR, hLR⟩ : ∃ M, M = L.reverse := ⟨_, rfl⟩
  have hLRl : LR.length = L.length := by rw [hLR]; simp
  rw [← hLR] at O4
  have HLR := Lib.hid hLR
  have HLRL := Lib.hid hLRl
  clear hLR hLRl
  go_wp2_with fail
  refine (of_any _ LR _ O4.out (by have := HLRL.out; omega)).mono ?_
  rw [HLR.out, HREV.out]
  rintro e w5 ⟨vb, rfl, ob, b5⟩
  have B5 := below_later B4 b5
  have OA := Lib.hid (OA.out.later b5)
  have OB := Lib.hid ob.seg
  clear ob b5 O4 B4
  go_wp2_with fail
  refine (turn_any _ A _ OA.out).mono ?_
  rw [← HT.out, H1.out]
  rintro e w6 ⟨vt, rfl, ot, b6⟩
  have B6 := below_later B5 b6
  have OA := Lib.hid (OA.out.later b6)
  have OB := Lib.hid (OB.out.later b6)
  have OT := Lib.hid ot.seg
  obtain ⟨pt, ct, rfl⟩ := ot.shape
  clear ot b6 B5
  go_wp2_with fail
  refine (turn_any _ T _ OT.out).mono ?_
  rw [H4.out, H5.out]
  rintro e w7 ⟨vk, rfl, ok, b7⟩
  have B7 := below_later B6 b7
  have OA := Lib.hid (OA.out.later b7)
  have OB := Lib.hid (OB.out.later b7)
  have OT := Lib.hid (OT.out.later b7)
  have OK := Lib.hid ok.seg
  clear ok b7 B6
  go_wp2_with fail
  refine (equalP_seg _ _ A A _ OA.out OB.out).mono ?_
  rw [show decide (A = A) = true from by simp]
  rintro e w8 ⟨rfl, g8⟩
  have B8 := below_later B7 g8.below
  have OA := Lib.hid (OA.out.later g8.below)
  have OT := Lib.hid (OT.out.later g8.below)
  have OK := Lib.hid (OK.out.later g8.below)
  clear g8 B7 OB
  go_wp2_with fail
  refine (equalP_seg _ _ A A _ OK.out OA.out).mono ?_
  rw [show decide (A = A) = true from by simp]
  rintro e w9 ⟨rfl, g9⟩
  have B9 := below_later B8 g9.below
  have OA := Lib.hid (OA.out.later g9.below)
  have OT := Lib.hid (OT.out.later g9.below)
  clear g9 B8 OK
  go_wp2_with fail
  refine (check_any _ T _ OT.out).mono ?_
  rw [H5.out]
  rintro e w10 ⟨rfl, g10⟩
  have B10 := below_later B9 g10.below
  have OA := Lib.hid (OA.out.later g10.below)
  have OT := Lib.hid (OT.out.later g10.below)
  clear g10 B9
  obtain ⟨na, hna⟩ : ∃ n, n = A.length := ⟨_, rfl⟩
  obtain ⟨nt, hnt⟩ : ∃ n, n = T.length := ⟨_, rfl⟩
  rw [← hna] at hflen OA ⊢
  rw [← hnt] at OT ⊢
  have HNA := Lib.hid hna
  have HNT := Lib.hid hnt
  clear hna hnt
  have hna40 : na ≤ 40 := by omega
  go_wp2
  go_loopw [73] (fun i wr => ∃ k : Nat, k ≤ na ∧ i = .int .i64 (k : Int) ∧ Gr w10 wr) (fun i _ => na - (intOf i).toNat)
  case atStart => exact ⟨0, by omega, rfl, Gr.refl _⟩
  case round =>
    obtain ⟨k, hk, rfl, hG⟩ := hrel
    by_cases hlt : k < na
    · have hkl : k < A.length := by have := HNA.out; omega
      obtain ⟨bu, fu, rfl, hbu, hcells⟩ := OA.out.has hkl
      obtain ⟨d1, d2⟩ := (hcells.below hG.below hbu) k hkl
      have hbur : bu < wr.heap.size := Nat.lt_of_lt_of_le hbu hG.below.size
      have hmem : A[k] ∈ A := List.getElem_mem hkl
      have hh := H6.out _ hmem
      obtain ⟨x, hx⟩ : ∃ x, x = A[k] := ⟨_, rfl⟩
      rw [← hx] at d1 d2 hh
      have HH := Lib.hid hh
      clear hx hcells hmem hh
      obtain ⟨x1, x2⟩ := x
      simp only at d1 d2
      go_wp2_with fail
      refine (has_is _ T _ (OT.out.later (hG.trans (Gr.alloc _ _)).below) x2 x1 true HH.out).mono ?_
      rintro e w12 ⟨rfl, g12⟩
      clear d1 d2
      go_wp2
      go_roundw
      case rel => exact ⟨k + 1, by omega, by go_num, hG.trans ((Gr.alloc _ _).trans g12)⟩
      case measure => simp [intOf]; omega
    · have hq : ((nt : Int) == (na : Int)) = true := by
        have h1 := H3.out
        have := HNA.out
        have := HNT.out
        simp; omega
      go_wp2
      go_ret
      exact ⟨rfl, below_later B10 hG.below⟩
end Go.Proofs.Yteipihoebnmagaa
