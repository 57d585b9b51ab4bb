import Derived.Test.YtjfnhjmdgfkgnaaVB
import Derived.Test.YtjfnhjmdgfkgnaaU15
import Derived.Test.YtjfnhjmdgfkgnaaU26
import Derived.Test.YtjfnhjmdgfkgnaaU14
import Derived.Deep.RegionHeld3
/- cursor.New. -/
namespace Go.Proofs.Ytjfnhjmdgfkgnaa
open Go.RowKit Go.Proofs.Kit Go.Shelf

theorem ownR_in {t : TypeId} {B : Nat} {w : World} {o : Option Addr} {n c r : Nat} {l : List Br} (h : OwnR t B w (.slice o n c) l) (hr : w.heap.size ≤ r) : In8 B r o := fun a ha => by
  subst ha
  have := h.lt a.block rfl
  omega
theorem owns_in {k : IntKind} {t : TypeId} {B : Nat} {w : World} {o : Option Addr} {n c r : Nat} {l : List Int} (h : Owns k t B w (.slice o n c) l) (hr : w.heap.size ≤ r) : In8 B r o := fun a ha => by
  subst ha
  have := h.lt a.block rfl
  omega
theorem new_st {lo r : Nat} {w : World} {bs : List Br} {lv : List Int} {ob : Option Addr} {m cb : Nat} {ol : Option Addr} {q cl : Nat} {ok : Option Addr} {nk ck : Nat} {B : Nat} (hB : OwnR 68 lo w (.slice ob m cb) bs) (hL : Owns .u64 32 lo w (.slice ol q cl) lv) (hK : Owns .u64 32 B w (.slice ok nk ck) (keysB bs)) (hlo : lo ≤ B) (hr : w.heap.size ≤ r)
    (hok : ok7 bs lv) (hm : bs.length ≤ 100000) (hq : lv.length ≤ 100000) : StM lo r w bs lv ⟨0, [], [], 0⟩ ob m cb ol q cl ok nk ck none 0 0 none 0 0 :=
  { sB := hB.seg, sL := hL.seg, sK := hK.seg, s0 := Seg.nil _ _, s1 := Seg.nil _ _, iB := ownR_in hB hr, iL := owns_in hL hr, iK := fun a ha => ⟨Nat.le_trans hlo (owns_in hK hr a ha).1, (owns_in hK hr a ha).2⟩, i0 := In8.nil _ _, i1 := In8.nil _ _, ck := cok_new bs lv 0, ok := hok, hm := hm, hq := hq, st := by simp }
theorem segR_lenV {w : World} {o : Option Addr} {n c : Nat} {l : List Br} (h : SegR w (.slice o n c) l) : l.length = n := by
  obtain ⟨o', c', e, _⟩ := h.shape
  injection e with _ e _
  exact e.symm
/-- What New hands back. -/
def Newd (lo : Nat) (bs : List Br) (lv : List Int) (w : World) (e : Ending) (w' : World) : Prop :=
  Below w.heap.size w w' ∧ if ok7 bs lv then ∃ r, e = .returned (.tuple #[.pointer (some ⟨r, 0, none⟩), .int .i64 0]) ∧ lo ≤ r ∧ Cur lo r w' bs lv ⟨0, [], [], 0⟩ else e = .returned (.tuple #[.pointer none, .int .i64 170])
theorem rowOf_nil {bs : List Br} {lv : List Int} (h : ok7 bs lv) : (rowOf bs lv []).getD [] = keysB bs := by
  unfold rowOf
  rw [if_pos h]
  rfl
set_option maxRecDepth 100000 in
set_option maxHeartbeats 8000000 in
theorem cnew_any (ob : Option Addr) (m cb : Nat) (ol : Option Addr) (q cl : Nat) (bs : List Br) (lv : List Int) (w : World) (hb : SegR w (.slice ob m cb) bs) (hl : Seg .u64 w (.slice ol q cl) lv) (hm : bs.length = m) (hq : lv.length = q) (hml : m ≤ 1000) (hql : q ≤ 1000) :
    Calls Try.prog 34 #[.agg #[.slice ob m cb, .slice ol q cl]] w (Newd w.heap.size bs lv w) := by
  have HCK := Lib.hid (fun W (g : Below w.heap.size w W) => ycheck_any ob m cb ol q cl bs lv W (hb.later g) (hl.later g) hm hq (by omega) (by omega))
  have HCB := Lib.hid (fun W (g : Below w.heap.size w W) => ccopB_any (.slice ob m cb) bs W (hb.later g) (by omega))
  have HCU := Lib.hid (fun W (g : Below w.heap.size w W) => ccopU_any (.slice ol q cl) lv W (hl.later g) (by omega))
  have HM := Lib.hid hm
  have HQ := Lib.hid hq
  have HML := Lib.hid hml
  have HQL := Lib.hid hql
  clear hb hl hm hq hml hql
  by_cases hok : ok7 bs lv
  · have HOK := Lib.hid hok
    rw [if_pos hok] at HCK
    clear hok
    go_enter Try.func34, Try.ntmps34
    go_wp2_with fail
    refine (HCK.out _ ((Below.refl _ _).alloc (Nat.le_refl _) _)).mono ?_
    rintro e w1 ⟨rfl, l1⟩
    have k4 := (Blk.new w #[.slice ob m cb, .slice ol q cl] 25).later l1
    have lo1 : Below w.heap.size w w1 := ((Below.refl _ _).alloc (Nat.le_refl _) _).trans (l1.mono (by simp))
    have K4 := Lib.hid k4
    have LO1 := Lib.hid lo1
    obtain ⟨c0, c1, lc⟩ := k4.two
    clear k4 lo1 l1
    go_upto_region 3 with fail
    go_cut [4] (fun s4 wx => ∃ (T : Nat) (o1 : Option Addr) (m1 y1 : Nat) (o2 : Option Addr) (q2 y2 : Nat), s4 = .pointer (some ⟨T, 0, none⟩) ∧ Hid (Blk wx T #[.slice o1 m1 y1, .slice o2 q2 y2] 25) ∧ Hid (OwnR 68 w.heap.size wx (.slice o1 m1 y1) bs) ∧ Hid (Owns .u64 32 w.heap.size wx (.slice o2 q2 y2) lv) ∧ Hid (Below w1.heap.size w1 wx))
    case first =>
      have hk : ∀ W', Below w1.heap.size w1 W' → (W'.cell? ⟨w.heap.size, 0, none⟩ = some (.slice ob m cb) ∧ W'.cell? ⟨w.heap.size, 1, none⟩ = some (.slice ol q cl)) ∧ Below w1.heap.size w1 W' := fun W' h => ⟨⟨(K4.out.later h).cell 0, (K4.out.later h).cell 1⟩, h⟩
      have HK := Lib.hid hk
      have hws : Below w1.heap.size w1 w1 := Below.refl _ _
      clear hk
      go_region_held3 (fun W' => (W'.cell? ⟨w.heap.size, 0, none⟩ = some (.slice ob m cb) ∧ W'.cell? ⟨w.heap.size, 1, none⟩ = some (.slice ol q cl)) ∧ Below w1.heap.size w1 W')
        (first | exact HK.out _ hws | exact HK.out _ hws.drew | exact HK.out _ (hws.alloc hws.size _) | exact HK.out _ (hws.drew.alloc hws.size _) | exact HK.out _ (hws.alloc hws.size _).drew | exact HK.out _ ((hws.setCell (by first | (simp; done) | (have := hws.size; simp; omega)) _).setCell (by first | (simp; done) | (have := hws.size; simp; omega)) _))
        (first
          | (go_at_call 71; (with_reducible refine (HCB.out _ (by first | exact below_later LO1.out hws | exact below_later LO1.out hws.drew | exact below_later LO1.out (hws.alloc hws.size _) | exact below_later LO1.out (hws.alloc hws.size _).drew)).mono ?_); rintro e w3 ⟨v3, rfl, hF, lF⟩; obtain ⟨o1, y1, rfl⟩ := hF.shapeN HM.out; have hF := hF.mono (B' := w.heap.size) (by have := LO1.out.size; have := hws.size; first | omega | (simp; omega)); (first | (have hO := hO.later lF) | (have hO := (hO.alloc _).later lF) | (have hO := (hO.alloc _).drew.later lF) | (have hO := hO.drew.later lF) | skip); (first | (have kz := kz.later lF) | (have kz : Blk w3 _ #[.slice none 0 0, .slice none 0 0] 25 := (Blk.new _ _ _).later lF) | (have kz : Blk w3 _ #[.slice none 0 0, .slice none 0 0] 25 := (Blk.new _ _ _).drew.later lF) | skip); have hws := (by first | exact hws.trans (lF.mono hws.size) | exact hws.drew.trans (lF.mono hws.size) | exact (hws.alloc hws.size _).trans (lF.mono (hws.alloc hws.size _).size) | exact (hws.alloc hws.size _).drew.trans (lF.mono (hws.alloc hws.size _).size) : Below w1.heap.size w1 w3); have hsz := hws.size; (first | (obtain ⟨z0, z1⟩ := kz.z2; obtain ⟨v0, v1, vl⟩ := kz.two) | skip))
          | (go_at_call 72; (with_reducible refine (HCU.out _ (by first | exact below_later LO1.out hws | exact below_later LO1.out hws.drew | exact below_later LO1.out (hws.alloc hws.size _) | exact below_later LO1.out (hws.alloc hws.size _).drew)).mono ?_); rintro e w3 ⟨v3, rfl, hO, lF⟩; obtain ⟨o2, y2, rfl⟩ := hO.shapeN HQ.out; have hO := hO.mono (B' := w.heap.size) (by have := LO1.out.size; have := hws.size; first | omega | (simp; omega)); (first | (have hF := hF.later lF) | (have hF := (hF.alloc _).later lF) | (have hF := (hF.alloc _).drew.later lF) | (have hF := hF.drew.later lF) | skip); (first | (have kz := kz.later lF) | (have kz : Blk w3 _ #[.slice none 0 0, .slice none 0 0] 25 := (Blk.new _ _ _).later lF) | (have kz : Blk w3 _ #[.slice none 0 0, .slice none 0 0] 25 := (Blk.new _ _ _).drew.later lF) | skip); have hws := (by first | exact hws.trans (lF.mono hws.size) | exact hws.drew.trans (lF.mono hws.size) | exact (hws.alloc hws.size _).trans (lF.mono (hws.alloc hws.size _).size) | exact (hws.alloc hws.size _).drew.trans (lF.mono (hws.alloc hws.size _).size) : Below w1.heap.size w1 w3); have hsz := hws.size; (first | (obtain ⟨z0, z1⟩ := kz.z2; obtain ⟨v0, v1, vl⟩ := kz.two) | skip)))
      all_goals
        refine then_at ?_
        intro W4 hW4
        (first
          | (have hn : Blk W4 w3.heap.size #[.slice o1 m y1, .slice o2 q y2] 25 := by rw [hW4]; exact Blk.new _ _ _
             have hF4 : OwnR 68 w.heap.size W4 (.slice o1 m y1) bs := by rw [hW4]; exact hF.alloc _
             have hO4 : Owns .u64 32 w.heap.size W4 (.slice o2 q y2) lv := by rw [hW4]; exact hO.alloc _
             have hw4 : Below w1.heap.size w1 W4 := by rw [hW4]; exact hws.alloc hws.size _
             clear hW4
             go_wp2_with fail
             go_meet
             exact ⟨w3.heap.size, o1, m, y1, o2, q, y2, rfl, Lib.hid hn, Lib.hid hF4, Lib.hid hO4, Lib.hid hw4⟩)
          | (have hF4 : OwnR 68 w.heap.size W4 (.slice o1 m y1) bs := by rw [hW4]; exact (hF.oth (hF.ne_blk kz (by decide)) 0 _).oth (hF.ne_blk kz (by decide)) 1 _
             have hO4 : Owns .u64 32 w.heap.size W4 (.slice o2 q y2) lv := by rw [hW4]; exact (hO.oth (hO.ne_blk kz (by decide)) 0 _).oth (hO.ne_blk kz (by decide)) 1 _
             have hw4 : Below w1.heap.size w1 W4 := by rw [hW4]; exact (hws.setCell (by first | (simp; done) | (have := hws.size; simp; omega)) _).setCell (by first | (simp; done) | (have := hws.size; simp; omega)) _
             have hn := kz.set2 (.slice o1 m y1) (.slice o2 q y2)
             rw [← hW4] at hn
             clear hW4
             go_wp2_with fail
             go_meet
             exact ⟨_, o1, m, y1, o2, q, y2, rfl, Lib.hid hn, Lib.hid hF4, Lib.hid hO4, Lib.hid hw4⟩))
    case rest =>
      obtain ⟨T, o1, m1, y1, o2, q2, y2, rfl, HT, HF, HO, HW⟩ := hcut
      have hm1 := segR_lenV HF.out.seg
      have hq1 := segU_len HO.out.seg
      have HKEY := Lib.hid (fun W (g : Below wc.heap.size wc W) => ykeys_any o1 m1 y1 o2 q2 y2 bs lv none 0 0 [] W (HF.out.seg.later g) (HO.out.seg.later g) hm1 hq1 (by have := HM.out; have := HML.out; omega) (by have := HQ.out; have := HQL.out; omega) (fun i hi => by simp at hi) rfl (by omega))
      rw [rowOf_nil HOK.out] at HKEY
      have hk : ∀ W', Below wc.heap.size wc W' → (W'.cell? ⟨T, 0, none⟩ = some (.slice o1 m1 y1) ∧ W'.cell? ⟨T, 1, none⟩ = some (.slice o2 q2 y2) ∧ T < W'.heap.size) ∧ Below wc.heap.size wc W' := fun W' h => ⟨⟨(HT.out.later h).cell 0, (HT.out.later h).cell 1, (HT.out.later h).lt⟩, h⟩
      have HK := Lib.hid hk
      have hws : Below wc.heap.size wc wc := Below.refl _ _
      clear hk hm1 hq1 c0 c1 lc
      go_wp2_with fail
      go_region_held3 (fun W' => (W'.cell? ⟨T, 0, none⟩ = some (.slice o1 m1 y1) ∧ W'.cell? ⟨T, 1, none⟩ = some (.slice o2 q2 y2) ∧ T < W'.heap.size) ∧ Below wc.heap.size wc W')
        (first | exact HK.out _ hws | exact HK.out _ hws.drew | exact HK.out _ (hws.alloc hws.size _) | exact HK.out _ (hws.drew.alloc hws.size _) | exact HK.out _ (hws.alloc hws.size _).drew)
        ((go_at_call 14; (with_reducible refine (HKEY.out _ (by first | exact hws | exact hws.drew)).mono ?_); rintro e w3 ⟨v3, rfl, hO3, lF⟩; obtain ⟨o3, y3, rfl⟩ := hO3.shapeN (keysB_len bs); have hws := (by first | exact hws.trans (lF.mono hws.size) | exact hws.drew.trans (lF.mono hws.size) : Below wc.heap.size wc w3)))
      refine then_at ?_
      intro W4 hW4
      have s1 := LO1.out.size
      have s2 := HW.out.size
      have s3 := hws.size
      have hn : Blk W4 w3.heap.size (SC o1 m1 y1 o2 q2 y2 o3 bs.length y3 0 none 0 0 none 0 0 0) 113 := by rw [hW4]; exact Blk.new _ _ _
      have hS : StM w.heap.size w3.heap.size w3 bs lv ⟨0, [], [], 0⟩ o1 m1 y1 o2 q2 y2 o3 bs.length y3 none 0 0 none 0 0 := new_st (HF.out.later hws) (HO.out.later hws) hO3 (by show w.heap.size ≤ wc.heap.size; omega) (Nat.le_refl _) HOK.out (by have := HM.out; have := HML.out; omega) (by have := HQ.out; have := HQL.out; omega)
      have hS4 : StM w.heap.size w3.heap.size W4 bs lv ⟨0, [], [], 0⟩ o1 m1 y1 o2 q2 y2 o3 bs.length y3 none 0 0 none 0 0 := by rw [hW4]; exact hS.later ((Below.refl _ _).alloc (Nat.le_refl _) _)
      have hw4 : Below wc.heap.size wc W4 := by rw [hW4]; exact hws.alloc hws.size _
      have hlow : Below w.heap.size w W4 := below_later (below_later LO1.out HW.out) hw4
      have HN := Lib.hid hn
      have HS4 := Lib.hid hS4
      clear hW4 hO3 hS hn hS4 hws hw4 lF
      go_wp2_with fail
      go_ret2
      exact ⟨hlow, by rw [if_pos HOK.out]; exact ⟨w3.heap.size, rfl, by omega, o1, m1, y1, o2, q2, y2, o3, bs.length, y3, none, 0, 0, none, 0, 0, HN.out, HS4.out⟩⟩
  · have HOK := Lib.hid hok
    rw [if_neg hok] at HCK
    clear hok
    go_enter Try.func34, Try.ntmps34
    go_wp2_with fail
    refine (HCK.out _ ((Below.refl _ _).alloc (Nat.le_refl _) _)).mono ?_
    rintro e w1 ⟨rfl, l1⟩
    have lo1 : Below w.heap.size w w1 := ((Below.refl _ _).alloc (Nat.le_refl _) _).trans (l1.mono (by simp))
    clear l1
    go_wp2_with fail
    go_ret2
    exact ⟨lo1, by rw [if_neg HOK.out]; rfl⟩
end Go.Proofs.Ytjfnhjmdgfkgnaa


/- The numbers where a cursor stands: Path. -/
namespace Go.Proofs.Ytjfnhjmdgfkgnaa
open Go.RowKit Go.Proofs.Kit Go.Shelf
/-- The numbers where it stands. -/
def cpath (X : Cs) : List Int := X.r0.take 1 ++ X.r1.take 1
def cpathK (X : Cs) (k : Nat) : List Int := if k = 0 then [] else if k = 1 then X.r0.take 1 else cpath X
set_option maxRecDepth 100000 in
set_option maxHeartbeats 4000000 in
theorem cpath_st {lo r : Nat} {w : World} {bs : List Br} {lv : List Int} {X : Cs} {ob : Option Addr} {m cb : Nat} {ol : Option Addr} {q cl : Nat} {ok : Option Addr} {nk ck : Nat} {SD : Int} {o0 : Option Addr} {n0 c0 : Nat} {o1 : Option Addr} {n1 c1 : Nat} {SS : Int} (h : StM lo r w bs lv X ob m cb ol q cl ok nk ck o0 n0 c0 o1 n1 c1) :
    Calls Try.prog 81 #[.agg (SC ob m cb ol q cl ok nk ck SD o0 n0 c0 o1 n1 c1 SS)] w fun e w' => ∃ v', e = .returned v' ∧ Owns .u64 32 w.heap.size w' v' (cpath X) ∧ Below w.heap.size w w' := by
  obtain ⟨i0, hi, hz0, hz1, hz2⟩ := infou
  have HST := Lib.hid h
  clear h
  have hix0 : ∀ (a b : Value) (w : World), (Instr.index 109 (.agg #[a, b]) (.int .i64 0)).run Try.prog w = .ok a w := fun _ _ _ => by kernel_rfl
  have hix1 : ∀ (a b : Value) (w : World), (Instr.index 109 (.agg #[a, b]) (.int .i64 1)).run Try.prog w = .ok b w := fun _ _ _ => by kernel_rfl
  go_enter Try.func81, Try.ntmps81
  go_wp2
  go_loopw [3, 5, 8, 9, 10, 11, 12, 13, 14, 15, 16, 17, 18, 19, 20] (fun s3 _ s8 _ _ _ _ _ _ _ _ _ _ _ _ wr => ∃ k : Nat, k ≤ 2 ∧ s8 = .int .i64 (k : Int) ∧ Hid (Owns .u64 32 w.heap.size wr s3 (cpathK X k)) ∧ Hid (Below w.heap.size w wr)) (fun _ _ s8 _ _ _ _ _ _ _ _ _ _ _ _ _ => 2 - (intOf s8).toNat)
  case atStart => exact ⟨0, by omega, rfl, Lib.hid (Owns.nil _ _ _ _), Lib.hid ((Below.refl _ _).alloc (Nat.le_refl _) _)⟩
  case round =>
    obtain ⟨k, hk, rfl, HO, HB⟩ := hrel
    rcases (by omega : k = 0 ∨ k = 1 ∨ k = 2) with rfl | rfl | rfl
    · by_cases hn : n0 = 0
      · subst hn
        have e0 : X.r0 = [] := List.length_eq_zero_iff.1 (segU_len HST.out.s0)
        have HE : Hid (cpathK X 0 = cpathK X 1) := Lib.hid (by simp [cpathK, e0])
        clear e0
        go_wp2
        go_roundw
        · exact ⟨1, by omega, rfl, by rw [← HE.out]; exact HO, HB⟩
        · simp [intOf]
      · obtain ⟨b, f, rfl, hc, hcm, hb, hcell⟩ := segU_has HST.out.s0 (by omega)
        have hlen := segU_len HST.out.s0
        have hx0 := (HB.out.cell (p := ⟨b, f + 0, none⟩) hb).trans (hcell 0 (by omega))
        rw [Nat.add_zero] at hx0
        have HE : Hid (cpathK X 0 ++ [X.r0[0]'(by omega)] = cpathK X 1) := Lib.hid (by simp [cpathK]; rw [List.take_one]; simp [List.head?_eq_getElem?, List.getElem?_eq_getElem (show 0 < X.r0.length by omega)])
        obtain ⟨x, hx⟩ : ∃ x, x = X.r0[0]'(by omega) := ⟨_, rfl⟩
        rw [← hx] at hx0 HE
        have h1 : 0 < n0 := by omega
        have hlb := HB.out.size
        obtain ⟨ov, cv, ev⟩ := HO.out.shape
        obtain ⟨nv, hnv⟩ : ∃ nv, nv = (cpathK X 0).length := ⟨_, rfl⟩
        rw [← hnv] at ev
        subst ev
        have hcl : (cpathK X 0).length ≤ 2 := by simp [cpathK]; try omega
        have HCL := Lib.hid hcl
        have hlt : w.heap.size ≤ (wr.alloc (.cells #[.int .u64 x] 32)).heap.size := by simp; omega
        have HLT := Lib.hid hlt
        clear hx hlen hcell hn hnv hcl hlt
        go_wp2_with (at_builtin; refine wpList_append_segG rfl _ _ 23 rfl .u64 w.heap.size 32 i0 (.int .u64 0) 8 Try.underlying23 hi hz0 hz1 hz2 rfl _ _ rfl (HO.out.alloc _) _ [x] rfl ?qm ?q1 ?q2 HLT.out ?_)
        case qm => exact Seg.of_blk (l := [x]) (Blk.new _ _ _) (by simp) (by omega) rfl
        case q1 => have := HCL.out; simp; omega
        case q2 => have := HCL.out; simp; omega
        intro v' w3 hO3 hb3 _
        go_wp2
        go_roundw
        · exact ⟨1, by omega, rfl, by rw [← HE.out]; exact Lib.hid hO3, Lib.hid ((HB.out.alloc HB.out.size _).trans hb3)⟩
        · simp [intOf]
    · by_cases hn : n1 = 0
      · subst hn
        have e0 : X.r1 = [] := List.length_eq_zero_iff.1 (segU_len HST.out.s1)
        have HE : Hid (cpathK X 1 = cpathK X 2) := Lib.hid (by simp [cpathK, cpath, e0])
        clear e0
        go_wp2
        go_roundw
        · exact ⟨2, by omega, rfl, by rw [← HE.out]; exact HO, HB⟩
        · simp [intOf]
      · obtain ⟨b, f, rfl, hc, hcm, hb, hcell⟩ := segU_has HST.out.s1 (by omega)
        have hlen := segU_len HST.out.s1
        have hx0 := (HB.out.cell (p := ⟨b, f + 0, none⟩) hb).trans (hcell 0 (by omega))
        rw [Nat.add_zero] at hx0
        have HE : Hid (cpathK X 1 ++ [X.r1[0]'(by omega)] = cpathK X 2) := Lib.hid (by simp [cpathK, cpath]; rw [List.take_one]; simp [List.head?_eq_getElem?, List.getElem?_eq_getElem (show 0 < X.r1.length by omega)])
        obtain ⟨x, hx⟩ : ∃ x, x = X.r1[0]'(by omega) := ⟨_, rfl⟩
        rw [← hx] at hx0 HE
        have h1 : 0 < n1 := by omega
        have hlb := HB.out.size
        obtain ⟨ov, cv, ev⟩ := HO.out.shape
        obtain ⟨nv, hnv⟩ : ∃ nv, nv = (cpathK X 1).length := ⟨_, rfl⟩
        rw [← hnv] at ev
        subst ev
        have hcl : (cpathK X 1).length ≤ 2 := by simp [cpathK]; try omega
        have HCL := Lib.hid hcl
        have hlt : w.heap.size ≤ (wr.alloc (.cells #[.int .u64 x] 32)).heap.size := by simp; omega
        have HLT := Lib.hid hlt
        clear hx hlen hcell hn hnv hcl hlt
        go_wp2_with (at_builtin; refine wpList_append_segG rfl _ _ 23 rfl .u64 w.heap.size 32 i0 (.int .u64 0) 8 Try.underlying23 hi hz0 hz1 hz2 rfl _ _ rfl (HO.out.alloc _) _ [x] rfl ?qm ?q1 ?q2 HLT.out ?_)
        case qm => exact Seg.of_blk (l := [x]) (Blk.new _ _ _) (by simp) (by omega) rfl
        case q1 => have := HCL.out; simp; omega
        case q2 => have := HCL.out; simp; omega
        intro v' w3 hO3 hb3 _
        go_wp2
        go_roundw
        · exact ⟨2, by omega, rfl, by rw [← HE.out]; exact Lib.hid hO3, Lib.hid ((HB.out.alloc HB.out.size _).trans hb3)⟩
        · simp [intOf]
    · go_wp2
      go_ret
      exact ⟨_, rfl, HO.out, HB.out⟩
set_option maxRecDepth 100000 in
set_option maxHeartbeats 1000000 in
theorem kPath_any {lo r : Nat} {w : World} {bs : List Br} {lv : List Int} {X : Cs} (h : Cur lo r w bs lv X) : Calls Try.prog 39 #[.pointer (some ⟨r, 0, none⟩)] w fun e w' => ∃ v', e = .returned v' ∧ Owns .u64 32 w.heap.size w' v' (cpath X) ∧ Below w.heap.size w w' := by
  obtain ⟨ob, m, cb, ol, q, cl, ok, nk, ck, SD, o0, n0, c0, o1, n1, c1, SS, hB⟩ := h.open
  obtain ⟨a0, a1, a2, a3, a4, a5, a6⟩ := hB.k.all7
  have hl := hB.k.lt
  have HP := Lib.hid (fun SD SS => cpath_st (SD := SD) (SS := SS) hB.st)
  clear hB h
  go_enter Try.func39, Try.ntmps39
  go_wp2_with fail
  refine (HP.out _ _).mono ?_
  rintro e w1 ⟨v', rfl, hO, b1⟩
  go_wp2
  go_ret
  exact ⟨v', rfl, hO, b1⟩
end Go.Proofs.Ytjfnhjmdgfkgnaa


/- The copy that a law goes through; what lies in a cursor's path. -/
namespace Go.Proofs.Ytjfnhjmdgfkgnaa
open Go.RowKit Go.Proofs.Kit Go.Shelf
set_option maxRecDepth 100000 in
set_option maxHeartbeats 8000000 in
theorem own8_any (ob : Option Addr) (m cb : Nat) (ol : Option Addr) (q cl : Nat) (bs : List Br) (lv : List Int) (w : World) (hm : bs.length = m) (hmc : m ≤ cb) (hcb : cb ≤ 9223372036854775807) (ab : ArgR w ob cb bs) (hq : lv.length = q) (hqc : q ≤ cl) (hcl : cl ≤ 9223372036854775807) (al : ArgI .u64 w ol cl lv) :
    Calls Try.prog 33 #[.agg #[.slice ob m cb, .slice ol q cl]] w fun e w' => ∃ o1 m1 c1 o2 q2 c2, e = .returned (.agg #[.slice o1 m1 c1, .slice o2 q2 c2]) ∧ OwnR 68 w.heap.size w' (.slice o1 m1 c1) (bs.take 40) ∧ Owns .u64 32 w.heap.size w' (.slice o2 q2 c2) (lv.take 80) ∧ Below w.heap.size w w' := by
  obtain ⟨m1, hm1⟩ : ∃ m1, m1 = min m 40 := ⟨_, rfl⟩
  obtain ⟨q1, hq1⟩ : ∃ q1, q1 = min q 80 := ⟨_, rfl⟩
  have hm2 : (bs.take 40).length = m1 := by rw [List.length_take]; omega
  have hq2 : (lv.take 80).length = q1 := by rw [List.length_take]; omega
  have HCB := Lib.hid (fun W (h : Below w.heap.size w W) => cloneR_any ob m1 cb (bs.take 40) W hm2 (by omega) ((ab.later h).take 40))
  have HCU := Lib.hid (fun W (h : Below w.heap.size w W) => cloneu_any ol q1 cl (lv.take 80) W hq2 (by omega) ((al.later h).take 80))
  have HM2 := Lib.hid hm2
  have HQ2 := Lib.hid hq2
  have im : min (m : Int) 40 = (m1 : Int) := by omega
  have iq : min (q : Int) 80 = (q1 : Int) := by omega
  have j1 : m1 ≤ cb := by omega
  have j2 : q1 ≤ cl := by omega
  have j3 : (m1 : Int) ≤ (cb : Int) := by omega
  have j4 : (q1 : Int) ≤ (cl : Int) := by omega
  clear ab al hm hq hm2 hq2 hm1 hq1
  go_enter Try.func33, Try.ntmps33
  go_wp2_with fail
  obtain ⟨W0, hW0⟩ : ∃ W0, W0 = (w.alloc (.cells #[.slice ob m cb, .slice ol q cl] 25)).alloc (.cells #[.slice none 0 0, .slice none 0 0] 25) := ⟨_, rfl⟩
  have hws : OH 25 w (.slice ob m cb) (.slice ol q cl) W0 := by
    rw [hW0]
    refine ⟨(Blk.new _ _ _).alloc _, ⟨.slice none 0 0, .slice none 0 0, ?_⟩, ((Gr.alloc _ _).trans (Gr.alloc _ _)).below⟩
    have := Blk.new (w.alloc (.cells #[.slice ob m cb, .slice ol q cl] 25)) #[.slice none 0 0, .slice none 0 0] 25
    simpa using this
  rw [← hW0]
  clear hW0
  obtain ⟨⟨c0, c1⟩, _⟩ := hws.all
  go_region_held3 (fun w' => (w'.cell? ⟨w.heap.size, 0, none⟩ = some (.slice ob m cb) ∧ w'.cell? ⟨w.heap.size, 1, none⟩ = some (.slice ol q cl)) ∧ OH 25 w (.slice ob m cb) (.slice ol q cl) w')
    (first | exact hws.all | exact hws.drew.all | exact (hws.st _ _).all)
    (first
      | (go_at_call 53; (with_reducible refine (HCB.out _ (by first | exact hws.low | exact hws.drew.low)).mono ?_); rintro e wS ⟨vB, rfl, hB, bS⟩; obtain ⟨o1, x1, rfl⟩ := hB.shapeN HM2.out; have hB := hB.mono (B' := w.heap.size) (by first | exact hws.low.size | exact hws.drew.low.size); (first | (have hU := hU.later bS) | skip); have hws := (by first | exact hws.later bS | exact hws.drew.later bS : OH 25 w (.slice ob m cb) (.slice ol q cl) wS); obtain ⟨y0, y1, hk1⟩ := hws.k1; obtain ⟨z0, z1⟩ := hk1.z2; obtain ⟨v0, v1, vl⟩ := hk1.two; clear bS)
      | (go_at_call 54; (with_reducible refine (HCU.out _ (by first | exact hws.low | exact hws.drew.low)).mono ?_); rintro e wS ⟨vU, rfl, hU, bS⟩; obtain ⟨o2, x2, rfl⟩ := hU.shapeN HQ2.out; have hU := hU.mono (B' := w.heap.size) (by first | exact hws.low.size | exact hws.drew.low.size); (first | (have hB := hB.later bS) | skip); have hws := (by first | exact hws.later bS | exact hws.drew.later bS : OH 25 w (.slice ob m cb) (.slice ol q cl) wS); obtain ⟨y0, y1, hk1⟩ := hws.k1; obtain ⟨z0, z1⟩ := hk1.z2; obtain ⟨v0, v1, vl⟩ := hk1.two; clear bS))
  all_goals
    have HR := Lib.hid (hk1.set2 (.slice o1 m1 x1) (.slice o2 q1 x2))
    have HBB := Lib.hid ((hB.oth (hB.ne_blk hk1 (by decide)) 0 (.slice o1 m1 x1)).oth (hB.ne_blk hk1 (by decide)) 1 (.slice o2 q1 x2))
    have HUU := Lib.hid ((hU.oth (hU.ne_blk hk1 (by decide)) 0 (.slice o1 m1 x1)).oth (hU.ne_blk hk1 (by decide)) 1 (.slice o2 q1 x2))
    have HLO := Lib.hid (hws.st (.slice o1 m1 x1) (.slice o2 q1 x2)).low
    clear hB hU hws hk1 HCB HCU
    go_wp2
    obtain ⟨r0, r1, _⟩ := HR.out.two
    exact bodyPost_ret (v := .agg #[.slice o1 m1 x1, .slice o2 q1 x2]) (by simp [results, Try.results33, go_sem, r0, r1]) rfl ⟨o1, m1, x1, o2, q1, x2, rfl, HBB.out, HUU.out, HLO.out⟩
end Go.Proofs.Ytjfnhjmdgfkgnaa


/- wakes of stage 8's laws. -/
namespace Go.Proofs.Ytjfnhjmdgfkgnaa
open Go.RowKit Go.Proofs.Kit Go.Shelf
abbrev sm8B : List Br := [(3, 0, 3), (7, 3, 4)]
abbrev sm8L : List Int := [1, 5, 9, 2]
theorem sm8_ok : ok7 sm8B sm8L := by decide
set_option maxRecDepth 100000 in
set_option maxHeartbeats 400000 in
theorem small8_any (w : World) : Calls Try.prog 70 #[] w fun e w' => ∃ ob cb ol cl, e = .returned (.agg #[.slice ob 2 cb, .slice ol 4 cl]) ∧ SegR w' (.slice ob 2 cb) sm8B ∧ Seg .u64 w' (.slice ol 4 cl) sm8L ∧ Below w.heap.size w w' := by
  go_enter Try.func70, Try.ntmps70
  go_wp2
  refine bodyPost_ret (v := .agg #[.slice (some ⟨w.heap.size + 1, 0, none⟩) 2 2, .slice (some ⟨w.heap.size + 1 + 1, 0, none⟩) 4 4]) (by simp [results, Try.results70, go_sem]) rfl ⟨_, _, _, _, rfl, ?_, ?_, ?_⟩
  · have h1 := Blk.new (w.alloc (.cells #[.slice (some ⟨w.heap.size + 1, 0, none⟩) 2 2, .slice (some ⟨w.heap.size + 1 + 1, 0, none⟩) 4 4] 25)) #[.int .u64 3, .int .i64 0, .int .i64 3, .int .u64 7, .int .i64 3, .int .i64 4] 68
    simp only [World.size_alloc] at h1
    exact (SegR.of_blk (l := sm8B) (cap := 2) h1 (by decide) (by omega) rfl).alloc _
  · have h2 := Blk.new ((w.alloc (.cells #[.slice (some ⟨w.heap.size + 1, 0, none⟩) 2 2, .slice (some ⟨w.heap.size + 1 + 1, 0, none⟩) 4 4] 25)).alloc (.cells #[.int .u64 3, .int .i64 0, .int .i64 3, .int .u64 7, .int .i64 3, .int .i64 4] 68)) #[.int .u64 1, .int .u64 5, .int .u64 9, .int .u64 2] 32
    simp only [World.size_alloc] at h2
    exact Seg.of_blk (l := sm8L) (cap := 4) h2 (by decide) (by omega) rfl
  · exact (((Gr.alloc w _).trans (Gr.alloc _ _)).trans (Gr.alloc _ _)).below
theorem mvd_ok {lo r : Nat} {bs : List Br} {lv : List Int} {k key : Int} {X : Cs} {w : World} {e : Ending} {w' : World} (h : Mvd lo r bs lv k key X w e w') (hc : cerr k X = 0) : But r w w' ∧ e = .returned (.int .i64 0) ∧ ∃ q, Lk8 k key X q ∧ Cur lo r w' bs lv (cgo bs lv k key q X) := by
  obtain ⟨hb, rfl, ⟨_, q, hq, hC⟩ | ⟨h1, _⟩⟩ := h
  · exact ⟨hb, by rw [hc], q, hq, hC⟩
  · exact absurd hc h1
abbrev y0 : Cs := ⟨0, [], [], 0⟩
abbrev y1 : Cs := ⟨1, [3, 7], [], 1⟩
abbrev y2 : Cs := ⟨2, [3, 7], [1, 5, 9], 2⟩
theorem y_u : U64s (keysB sm8B) ∧ U64s sm8L := by
  constructor <;> intro x hx <;> simp [keysB] at hx <;> omega
theorem y01 (q : Nat) : cgo sm8B sm8L 1 0 q y0 = y1 := rfl
theorem y12 (q : Nat) : cgo sm8B sm8L 1 0 q y1 = y2 := rfl
theorem y23 (q : Nat) : cgo sm8B sm8L 4 4 q y2 = ⟨2, [3, 7], [5, 9], 2 + q⟩ := rfl
set_option maxRecDepth 100000 in
set_option maxHeartbeats 8000000 in
theorem wakes8_true (w : World) : Calls Try.prog 32 #[] w fun e w' => e = .returned (.bool true) ∧ Below w.heap.size w w' := by
  go_enter Try.func32, Try.ntmps32
  go_wp2_with fail
  refine (small8_any _).mono ?_
  rintro e w1 ⟨ob, cb, ol, cl, rfl, sB, sL, b1⟩
  have SB := Lib.hid sB
  have SL := Lib.hid sL
  clear sB sL
  go_wp2_with fail
  refine (cnew_any ob 2 cb ol 4 cl sm8B sm8L _ SB.out SL.out rfl rfl (by omega) (by omega)).mono ?_
  rintro e w2 ⟨b2, hN⟩
  rw [if_pos sm8_ok] at hN
  obtain ⟨r, rfl, hr, hC⟩ := hN
  have g2 := b1.trans (b2.mono b1.size)
  have HC := Lib.hid hC
  have hr1 : w.heap.size ≤ r := Nat.le_trans b1.size hr
  clear SB SL hC b1 b2
  go_wp2_with fail
  refine (kOpen_any HC.out (by decide) y_u.1 y_u.2).mono ?_
  rintro e w3 hM
  obtain ⟨hb3, rfl, _, _, hC3⟩ := mvd_ok hM (by decide)
  rw [y01] at hC3
  have g3 := g2.trans (hb3.below (B := w.heap.size) hr1 g2.size)
  have HC3 := Lib.hid hC3
  clear hM hC3 hb3 g2
  go_wp2_with fail
  refine (kOpen_any HC3.out (by decide) y_u.1 y_u.2).mono ?_
  rintro e w4 hM
  obtain ⟨hb4, rfl, _, _, hC4⟩ := mvd_ok hM (by decide)
  rw [y12] at hC4
  have g4 := g3.trans (hb4.below (B := w.heap.size) hr1 g3.size)
  have HC4 := Lib.hid hC4
  clear hM hC4 hb4 g3
  go_wp2_with fail
  refine (kSeek_any HC4.out (by decide) y_u.1 y_u.2 4 (by omega) (by omega)).mono ?_
  rintro e w5 hM
  obtain ⟨hb5, rfl, q5, hq5, hC5⟩ := mvd_ok hM (by decide)
  rw [y23] at hC5
  have hq := (hq5 rfl).1.1
  have hq2 : q5 ≤ 100 := by
    have h2 := (hq5 rfl).1.2
    have : Nat.log2 (1 + cfar 4 y2) = 1 := by decide
    omega
  have g5 := g4.trans (hb5.below (B := w.heap.size) hr1 g4.size)
  obtain ⟨Y, hY⟩ : ∃ Y : Cs, Y = ⟨2, [3, 7], [5, 9], 2 + q5⟩ := ⟨_, rfl⟩
  rw [← hY] at hC5
  have HC5 := Lib.hid hC5
  have e1 : ckey Y = 5 := by rw [hY]; rfl
  have e2 : decide (Y.row ≠ []) = true := by rw [hY]; simp [Cs.row]
  have e3 : Y.row.length = 2 := by rw [hY]; rfl
  have e4 : Y.d = 2 := by rw [hY]
  have e5 : cpath Y = [3, 5] := by rw [hY]; rfl
  have e6 : Y.s = 2 + q5 := by rw [hY]
  have e7 : cerr 1 Y = 2 := by simp [cerr, e4]
  have E := Lib.hid (And.intro e1 (And.intro e2 (And.intro e3 (And.intro e4 (And.intro e5 (And.intro e6 e7))))))
  clear hM hC5 hb5 g4 hq5 hY e1 e2 e3 e4 e5 e6 e7
  go_wp2_with fail
  refine (kKey_any HC5.out).mono ?_
  rw [E.out.1, E.out.2.1]
  rintro e w6 ⟨rfl, b6⟩
  have HC6 := Lib.hid (HC5.out.later b6)
  have g6 := g5.trans (b6.mono g5.size)
  clear b6 g5
  go_wp2_with fail
  refine (kLeft_any HC6.out).mono ?_
  rw [E.out.2.2.1]
  rintro e w7 ⟨rfl, b7⟩
  have HC7 := Lib.hid (HC6.out.later b7)
  have g7 := g6.trans (b7.mono g6.size)
  clear b7 g6
  go_wp2_with fail
  refine (kDepth_any HC7.out).mono ?_
  rw [E.out.2.2.2.1]
  rintro e w8 ⟨rfl, rfl⟩
  go_wp2_with fail
  refine (kPath_any HC7.out).mono ?_
  rw [E.out.2.2.2.2.1]
  rintro e w9 ⟨v9, rfl, hO9, b9⟩
  have HC9 := Lib.hid (HC7.out.later b9)
  have g9 := g7.trans (b9.mono g7.size)
  have HO := Lib.hid hO9.seg
  clear b9 g7 hO9
  go_wp2_with fail
  refine (equalu_seg v9 _ [3, 5] [3, 5] _ (HO.out.alloc _) (Seg.of_blk (l := [3, 5]) (Blk.new _ _ _) (by decide) (by omega) rfl)).mono ?_
  rw [show decide (([3, 5] : List Int) = [3, 5]) = true from rfl]
  rintro e w10 ⟨rfl, b10⟩
  have b9a : Below w9.heap.size w9 (w9.alloc (.cells #[.int .u64 3, .int .u64 5] 32)) := (Below.refl _ _).alloc (Nat.le_refl _) _
  have c10 := b9a.trans (b10.mono b9a.size)
  have HC10 := Lib.hid (HC9.out.later c10)
  have g10 := g9.trans (c10.mono g9.size)
  clear b10 g9 b9a c10
  go_wp2_with fail
  refine (kSteps_any HC10.out).mono ?_
  rw [E.out.2.2.2.2.2.1]
  rintro e w11 ⟨rfl, rfl⟩
  have d3 : (3 : Int) ≤ ((2 + q5 : Nat) : Int) := by omega
  go_wp2_with fail
  refine (kOpen_any HC10.out (by rw [E.out.2.2.2.2.2.1]; omega) y_u.1 y_u.2).mono ?_
  rintro e w12 ⟨hb12, rfl, _⟩
  rw [E.out.2.2.2.2.2.2]
  have g12 := g10.trans (hb12.below (B := w.heap.size) hr1 g10.size)
  clear hb12 g10
  go_wp2_with fail
  go_ret
  exact ⟨rfl, g12⟩
end Go.Proofs.Ytjfnhjmdgfkgnaa

