/- merge.inOrder: what some rows have, each pair once, with how many were ahead of it. -/
import Derived.Test.YtlhigfphfbmbjaaM1
import Derived.Test.YtlhigfphfbmbjaaRngI
namespace Go.Proofs.Kit
open Go.RowKit
/-- What a pair and its number are told as. -/
abbrev encAt (x : Nat × Pr) : Array Value := #[.int .i64 x.1, PV x.2.1 x.2.2]
/-- What the iterator reads. -/
structure KR (tt tp : TypeId) (bx br n : Nat) (vs : List Value) (R : List (List Pr)) (X : World) : Prop where
  x : Blk X bx #[.slice (some ⟨br, 0, none⟩) n n] tt
  r : Blk X br vs.toArray tp
  len : vs.length = n
  len' : R.length = n
  each : ∀ i (h : i < vs.length) (h' : i < R.length), SegP X vs[i] R[i]
theorem KR.later {tt tp : TypeId} {bx br n : Nat} {vs : List Value} {R : List (List Pr)} {X X' : World} (h : KR tt tp bx br n vs R X) (hb : Below X.heap.size X X') : KR tt tp bx br n vs R X' :=
  ⟨h.x.later hb, h.r.later hb, h.len, h.len', fun i a b => (h.each i a b).later hb⟩
/-- What it tells. -/
def GI (R : List (List Pr)) (pre : List (Nat × Pr)) (x : Nat × Pr) : Prop := ∃ h : pre.length < (mrgs R).length, x = (pre.length, (mrgs R)[pre.length])
theorem cells_flat {w : World} {g : Nat} {cur : Array Value} {t : TypeId} {l : List Pr} (hb : Blk w g cur t) (ht : cur.toList.take (l.length * 2) = flat l) {i : Nat} (hi : i < l.length) :
    w.cell? ⟨g, i * 2, none⟩ = some (.int .u64 l[i].1) ∧ w.cell? ⟨g, i * 2 + 1, none⟩ = some (.int .u64 l[i].2) := by
  obtain ⟨h1, h2⟩ := flat_get l i hi
  rw [← ht, List.getElem?_take_of_lt (by omega), Array.getElem?_toList] at h1 h2
  exact ⟨(hb.cell _).trans h1, (hb.cell _).trans h2⟩
end Go.Proofs.Kit
namespace Go.Proofs.Ytlhigfphfbmbjaa
open Go.RowKit Go.Proofs.Kit Go.Shelf
attribute [local go_sem] Oper.semAt_some
set_option maxRecDepth 100000 in
set_option maxHeartbeats 8000000 in
theorem inOrder1_in (m : Nat) (hm : 1 ≤ m) (bx br n : Nat) (vs : List Value) (R : List (List Pr)) (hn8 : n ≤ 8) (hs : ∀ r ∈ R, r.length ≤ 1000) :
    SeqI Fence.wide m Try.prog 99 #[.pointer (some ⟨bx, 0, none⟩)] encAt (fun xs => xs.length = (mrgs R).length) (fun pre => pre.length ≤ (mrgs R).length) (mrgs R).length (KR 91 22 bx br n vs R) (GI R) 53 := by
  intro lp J Jx W hJK hJB hY h0
  have hK0 := hJK _ _ _ (h0 _ (Nat.le_refl _))
  have c0 := hK0.x.cell 0
  have lb0 := hK0.x.lt
  simp only [List.getElem?_toArray, List.getElem?_cons_zero] at c0
  have HK0 := Lib.hid hK0
  have HJB := Lib.hid hJB
  have HY := Lib.hid hY
  have H0 := Lib.hid h0
  have HS := Lib.hid hs
  clear hJK hJB hY hK0 h0 hs
  refine callsIn_wide.2 ?_
  go_enter Try.func99, Try.ntmps99
  go_wp2
  clear c0 lb0
  go_loopw [3, 10] (fun s3 s10 wr => ∃ k : Nat, k ≤ n ∧ s10 = .int .i64 (k : Int) ∧ Hid (OwnP 53 W.heap.size wr s3 (mrgs (R.take k))) ∧ Hid (Below W.heap.size W wr)) (fun _ s10 _ => n - (intOf s10).toNat)
  case atStart => exact ⟨0, Nat.zero_le _, rfl, Lib.hid (OwnP.nil _ _ _), Lib.hid (Below.refl _ _)⟩
  case round =>
    obtain ⟨k, hk, rfl, HO, HB⟩ := hrel
    by_cases hlt : k < n
    · have hkr := HK0.out.later HB.out
      have hkv : k < vs.length := by have := hkr.len; omega
      have hkR : k < R.length := by have := hkr.len'; omega
      have d0 := hkr.r.cell k
      have lr := hkr.r.lt
      simp only [List.getElem?_toArray, List.getElem?_eq_getElem hkv] at d0
      have hseg := hkr.each k hkv hkR
      obtain ⟨o, c, ev, _, _, _⟩ := hseg.shape
      rw [ev] at d0 hseg
      have HN := Lib.hid (mrgs_next hkR)
      have hl1 := mrgs_len (L := R.take k) (m := 1000) (fun r hr => HS.out r (List.mem_of_mem_take hr))
      have hl2 := HS.out _ (List.getElem_mem hkR)
      have hl3 : (R.take k).length ≤ 8 := by simp; omega
      obtain ⟨oo, cc, rfl⟩ := HO.out.shape
      have HM := Lib.hid (merged_any _ _ _ _ _ HO.out.seg hseg (by omega))
      obtain ⟨q1, hq1⟩ : ∃ q, q = (mrgs (R.take k)).length := ⟨_, rfl⟩
      obtain ⟨q2, hq2⟩ : ∃ q, q = R[k].length := ⟨_, rfl⟩
      rw [← hq1, ← hq2] at HM
      rw [← hq1]
      rw [← hq2] at d0
      clear hkr hseg ev hl1 hl2 hl3 hq1 hq2 hkv
      go_wp2_with fail
      refine HM.out.mono ?_
      rintro e w2 ⟨v2, rfl, o2, b2⟩
      rw [← HN.out] at o2
      have HO2 := Lib.hid (o2.mono HB.out.size)
      have HB2 := Lib.hid (below_later HB.out b2)
      clear o2 b2 d0 lr
      go_wp2
      go_roundw
      case rel => exact ⟨k + 1, by omega, by go_num, HO2, HB2⟩
      case measure => simp [intOf]; omega
    · obtain rfl : k = n := by omega
      have hT : R.take k = R := List.take_of_length_le (by have := HK0.out.len'; omega)
      rw [hT] at HO
      have hul := mrgs_len HS.out
      have hul2 : (mrgs R).length ≤ 8000 := by have := HK0.out.len'; omega
      obtain ⟨U, hU⟩ : ∃ U, U = mrgs R := ⟨_, rfl⟩
      have HU := Lib.hid hU
      rw [← hU] at HO hul2
      obtain ⟨ou, cu, rfl⟩ := HO.out.shape
      obtain ⟨nu, hnu⟩ : ∃ nu, nu = U.length := ⟨_, rfl⟩
      rw [← hnu] at HO hul2 ⊢
      have HNU := Lib.hid hnu
      clear hul hT hU hnu
      by_cases hz : nu = 0
      · subst hz
        have HJ : Hid (J wr.heap.size [] wr) := Lib.hid (HJB.out _ _ _ _ (H0.out _ HB.out.size) HB.out)
        go_wp2
        go_loopg [20] 1 (fun kx x wr' => x = .int .i64 0 ∧ wr' = wr)
        case atStart => exact ⟨rfl, rfl⟩
        case round =>
          obtain ⟨rfl, rfl⟩ := hrel
          go_wp2
          go_end0
          exact ⟨⟨_, rfl⟩, .inl ⟨_, [], by rw [← HU.out, ← HNU.out]; rfl, HJ.out⟩⟩
      · obtain ⟨g, cap, cur, ev, hcap, hcm, hcs, hgB, hblk, htk⟩ := HO.out.blk (by have := HNU.out; omega)
        injection ev with e1 e2 e3
        subst e1 e3
        have HJ : Hid (J g [] wr) := Lib.hid (HJB.out _ _ _ _ (H0.out _ hgB) HB.out)
        have HBK := Lib.hid (show wr.heap[g]? = some (.cells cur 53 (0, 0)) from hblk)
        have HTK := Lib.hid htk
        have HCS := Lib.hid hcs
        clear hblk htk hcs hcap e2 HB HO hz hk hlt
        go_wp2
        go_loopg [20] (nu + 1) (fun kx x wr' => ∃ (i : Nat) (pre : List (Nat × Pr)), x = .int .i64 (i : Int) ∧ i ≤ nu ∧ nu - i < kx ∧ Hid (pre.length = i) ∧ Hid (J g pre wr') ∧ Hid (wr'.heap[g]? = some (.cells cur 53 (0, 0))))
        case atStart => exact ⟨0, [], rfl, Nat.zero_le _, by omega, Lib.hid rfl, HJ, HBK⟩
        case round =>
          obtain ⟨i, pre, rfl, hi, hkx, HP, HJ, HBK⟩ := hrel
          by_cases hlt : i < nu
          · have hil : i < U.length := by have := HNU.out; omega
            obtain ⟨d0, d1⟩ := cells_flat (show Blk wr g cur 53 from HBK.out) HTK.out hil
            have lg : g < wr.heap.size := (Array.getElem?_eq_some_iff.1 HBK.out).1
            have hlen : pre.length < (mrgs R).length := by rw [HP.out, ← HU.out]; exact hil
            have HG : Hid (GI R pre (i, U[i])) := Lib.hid ⟨hlen, by
              have h1 := HP.out
              have h2 := HU.out
              subst h1 h2
              rfl⟩
            obtain ⟨p, hp⟩ : ∃ p, p = U[i] := ⟨_, rfl⟩
            rw [← hp] at d0 d1 HG
            have HLEN := Lib.hid hlen
            obtain ⟨p1, p2⟩ := p
            simp only at d0 d1
            clear hp hlen hil
            go_upto_region 9 with (fail)
            refine (wpIn_wide (n := m)).1 ?_
            have hJ1 : J g pre (wr.alloc (.cells #[.int .u64 p1, .int .u64 p2] 53)) := HJB.out _ _ _ _ HJ.out (Gr.alloc _ _).below
            have hb1 : (wr.alloc (.cells #[.int .u64 p1, .int .u64 p2] 53)).heap[g]? = some (.cells cur 53 (0, 0)) := ((Gr.alloc wr (.cells #[.int .u64 p1, .int .u64 p2] 53)).below.block g lg).trans HBK.out
            obtain ⟨fn, tmps, assign, body, hy, hRd⟩ := HY.out g pre (i, (p1, p2)) _ _ hJ1 hb1 HLEN.out HG.out
            dsimp only [encAt] at hy
            clear hJ1 hb1
            gi_wp2_with fail
            refine hRd.mono ?_
            rintro e W3 (⟨rfl, hJ3, hg3⟩ | ⟨rfl, hJ3⟩)
            · gi_wp2_with fail
              go_wp2
              go_roundg (nu - i)
              case measure => omega
              case rel => exact ⟨i + 1, pre ++ [(i, (p1, p2))], by go_num, by omega, by omega, Lib.hid (by simp [HP.out]), Lib.hid hJ3, Lib.hid hg3⟩
            · have HX := Lib.hid (And.intro (show (pre ++ [(i, (p1, p2))]).length ≤ (mrgs R).length by have := HLEN.out; simp; omega) hJ3)
              gi_wp2_with fail
              go_wp2
              refine bodyPost_ret (v := .tuple #[]) (by simp [results, Try.results99]) rfl ?_
              exact ⟨⟨_, rfl⟩, .inr ⟨_, HX.out.1, HX.out.2⟩⟩
          · have HX := Lib.hid (And.intro (show pre.length = (mrgs R).length by rw [HP.out, ← HU.out, ← HNU.out]; omega) HJ.out)
            go_wp2
            go_end0
            exact ⟨⟨_, rfl⟩, .inl ⟨_, _, HX.out.1, HX.out.2⟩⟩
set_option maxRecDepth 100000 in
set_option maxHeartbeats 1000000 in
theorem inOrderM_any (o : Option Addr) (n c : Nat) (w : World) : Calls Try.prog 81 #[.slice o n c] w fun e w' => e = .returned (.func (.func 99) #[] #[.pointer (some ⟨w.heap.size, 0, none⟩)]) ∧ w' = w.alloc (.cells #[.slice o n c] 91) := by
  have hmf : ∀ (fn : Fn) (first cap : Array Value) (w : World), (Instr.makeFunc fn first cap).run Try.prog w = .ok (.func fn first cap) w := fun _ _ _ _ => rfl
  go_enter Try.func81, Try.ntmps81
  go_wp2
  go_ret
  exact ⟨rfl, rfl⟩
set_option maxRecDepth 100000 in
set_option maxHeartbeats 1000000 in
theorem rowsM_any (x y : Ti) (w : World) : Calls Try.prog 82 #[.agg #[x.av, x.bv], .agg #[y.av, y.bv]] w fun e w' => ∃ br, e = .returned (.slice (some ⟨br, 0, none⟩) 4 4) ∧ Blk w' br #[x.av, x.bv, y.av, y.bv] 22 ∧ Gr w w' := by
  obtain ⟨ao, an, ac, bo, bn, bc⟩ := x
  obtain ⟨ao', an', ac', bo', bn', bc'⟩ := y
  simp only [Ti.av, Ti.bv]
  go_enter Try.func82, Try.ntmps82
  go_wp2
  go_ret
  exact ⟨_, rfl, by have := Blk.new ((w.alloc (.cells #[.slice ao an ac, .slice bo bn bc] 24)).alloc (.cells #[.slice ao' an' ac', .slice bo' bn' bc'] 24)) #[.slice ao an ac, .slice bo bn bc, .slice ao' an' ac', .slice bo' bn' bc'] 22; simpa using this, ((Gr.alloc _ _).trans (Gr.alloc _ _)).trans (Gr.alloc _ _)⟩
end Go.Proofs.Ytlhigfphfbmbjaa

