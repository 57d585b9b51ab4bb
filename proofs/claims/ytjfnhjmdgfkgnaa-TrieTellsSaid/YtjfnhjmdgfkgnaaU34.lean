/- TrieTells: its walk. -/
import Derived.Test.YtjfnhjmdgfkgnaaJ1
import Derived.Test.YtjfnhjmdgfkgnaaU22
import Derived.Test.YtjfnhjmdgfkgnaaU23
import Derived.Test.YtjfnhjmdgfkgnaaU25
import Derived.Test.YtjfnhjmdgfkgnaaU32
import Derived.Laws.AppendOwnNone
import Derived.Deep.CutBlock
namespace Go.Proofs.Kit
open Go.RowKit
/-- A path as it came in: a slice of numbers, its length and its room. -/
structure PIn where
  o : Option Addr
  n : Nat
  c : Nat
  l : List Int
def PIn.v (r : PIn) : Value := .slice r.o r.n r.c
def pIn0 : PIn := ⟨none, 0, 0, []⟩
end Go.Proofs.Kit
namespace Go.Proofs.Ytjfnhjmdgfkgnaa
open Go.RowKit Go.Proofs.Kit
structure PAt (W : World) (r : PIn) : Prop where
  len : r.l.length = r.n
  le : r.n ≤ r.c
  cap : r.c ≤ 9223372036854775807
  at' : PathAt W r.o r.l
theorem PAt.later {W W' : World} {r : PIn} (h : PAt W r) (hb : Below W.heap.size W W') : PAt W' r := ⟨h.len, h.le, h.cap, h.at'.later hb⟩
theorem PAt.nil (W : World) : PAt W pIn0 := ⟨rfl, Nat.le_refl _, by decide, fun i h => by simp [pIn0] at h⟩
theorem PathAt.take {W : World} {o : Option Addr} {P : List Int} (h : PathAt W o P) (n : Nat) : PathAt W o (P.take n) := fun i hi => by
  obtain ⟨a, e, h1⟩ := h i (by rw [List.length_take] at hi; omega)
  exact ⟨a, e, by rw [List.getElem_take]; exact h1⟩
/-- Paths as they came in. -/
def APs (W : World) (o : Option Addr) (c : Nat) (rs : List PIn) : Prop := (o = none ∧ rs = [] ∧ c = 0) ∨ ∃ a, o = some a ∧ ∀ i (h : i < rs.length), W.cell? (a.add i) = some rs[i].v ∧ PAt W rs[i]
theorem APs.later {W W' : World} {o : Option Addr} {c : Nat} {rs : List PIn} (h : APs W o c rs) (hb : Below W.heap.size W W') : APs W' o c rs := by
  rcases h with h | ⟨a, e, h⟩
  · exact .inl h
  · exact .inr ⟨a, e, fun i hi => ⟨(hb.cell (World.block_lt_of_cell? _ _ (h i hi).1)).trans (h i hi).1, (h i hi).2.later hb⟩⟩
theorem infoSl : ∃ i, Try.prog.info? 23 = some i ∧ i.zero = some (.slice none 0 0) ∧ i.size = 1 ∧ i.bytes = 24 := info_parts (by kernel_rfl)
set_option maxHeartbeats 1000000 in
theorem zkeys_any (vb vl : Value) (bs : List Br) (lv : List Int) (op : Option Addr) (np cp : Nat) (P : List Int) (w : World) (hb : SegR w vb bs) (hl : Seg .u64 w vl lv) (hlv : lv.length ≤ 10000) (hbs : bs.length ≤ 10000) (hcd : Chd lv.length bs) (hp : PathAt w op P) (hnp : P.length = np) (h3 : np ≤ 1000000) :
    Calls Try.prog 16 #[.agg #[vb, vl], .slice op np cp] w fun e w' => ∃ v', e = .returned v' ∧ Owns .u64 32 w.heap.size w' v' (zkP bs lv P) ∧ Below w.heap.size w w' := by
  subst hnp
  match P, hp, h3 with
  | [], _, _ => exact zkeys0 vb vl bs lv op cp w hb hl hbs
  | [a], hp, _ =>
    obtain ⟨ad, e, h⟩ := hp 0 (by simp)
    exact zkeys1 vb vl bs lv ad op cp a w hb hl hlv hbs e (by simpa [Addr.add] using h) hcd
  | _ :: _ :: _, _, h3 => exact zkeys2 vb vl bs lv op _ cp w hb hl hbs (by simp) h3
set_option maxHeartbeats 1000000 in
theorem zhas_any (vb vl : Value) (bs : List Br) (lv : List Int) (op : Option Addr) (np cp : Nat) (P : List Int) (w : World) (hb : SegR w vb bs) (hl : Seg .u64 w vl lv) (hlv : lv.length ≤ 10000) (hbs : bs.length ≤ 10000) (hcd : Chd lv.length bs) (hp : PathAt w op P) (hnp : P.length = np) (h3 : np ≤ 1000000) :
    Calls Try.prog 18 #[.agg #[vb, vl], .slice op np cp] w fun e w' => e = .returned (.bool (zhOf (prs bs lv) P)) ∧ Below w.heap.size w w' := by
  subst hnp
  match P, hp, h3 with
  | [], _, _ => exact zhas_0 vb vl bs lv op cp w hb hl hlv hbs hcd
  | [a], hp, _ =>
    obtain ⟨ad, e, h⟩ := hp 0 (by simp)
    exact zhas_1 vb vl bs lv ad op a cp w hb hl hlv hbs hcd e (by simpa [Addr.add] using h)
  | [a, b], hp, _ =>
    obtain ⟨ad, e, h⟩ := hp 0 (by simp)
    obtain ⟨ad', e', h'⟩ := hp 1 (by simp)
    have : ad' = ad := by rw [e] at e'; injection e' with e'; exact e'.symm
    subst this
    exact zhas_2 vb vl bs lv ad' op a b cp w hb hl hlv hbs hcd e (by simpa [Addr.add] using h) (by simpa using h')
  | _ :: _ :: _ :: _, _, h3 => exact zhas_long vb vl op _ cp w (by simp) (by omega)
theorem zsame_true (v1 v2 v3 v4 : Value) (b : List Br) (l : List Int) (w : World) (h1 : SegR w v1 b) (h2 : Seg .u64 w v2 l) (h3 : SegR w v3 b) (h4 : Seg .u64 w v4 l) :
    Calls Try.prog 20 #[.agg #[v1, v2], .agg #[v3, v4]] w fun e w' => e = .returned (.bool true) ∧ Below w.heap.size w w' :=
  (zsame_any v1 v2 v3 v4 b b l l w h1 h2 h3 h4).mono fun _ _ ⟨h, g⟩ => ⟨by rw [h]; simp, g.below⟩
/-- The reference's trie: the one that is asked, if it may be; else none. -/
def knB (bs : List Br) (lv : List Int) : List Br := if ok7 bs lv then bs else []
def knL (bs : List Br) (lv : List Int) : List Int := if ok7 bs lv then lv else []
theorem kn_chd (bs : List Br) (lv : List Int) : Chd (knL bs lv).length (knB bs lv) := by
  unfold knL knB
  split
  · rename_i h; exact h.2.1
  · exact chd_nil
theorem kn_keys (bs : List Br) (lv P : List Int) : (rowOf bs lv P).getD [] = zkP (knB bs lv) (knL bs lv) P := by
  unfold rowOf knL knB
  split
  · exact zkP_row P
  · match P with
    | [] => rfl
    | [_] => rfl
    | _ :: _ :: _ => rfl
theorem kn_has (bs : List Br) (lv P : List Int) : ((rowOf bs lv P).isSome && decide (0 < bs.length)) = zhOf (prs (knB bs lv) (knL bs lv)) P := by
  unfold rowOf knL knB
  split
  · rename_i h; exact zhOf_row h.2.1 P
  · match P with
    | [] => rfl
    | [_] => rfl
    | [_, _] => rfl
    | _ :: _ :: _ :: _ => rfl
theorem kn_size (bs : List Br) (lv : List Int) : (sizeOf7 bs lv).1 = (knB bs lv).length ∧ (sizeOf7 bs lv).2 = (knL bs lv).length := by
  unfold sizeOf7 knL knB
  split <;> exact ⟨rfl, rfl⟩
theorem kn_le (bs : List Br) (lv : List Int) : (knB bs lv).length ≤ bs.length ∧ (knL bs lv).length ≤ lv.length := by
  unfold knL knB
  split <;> simp
structure K7 (w0 : World) (T T2 : Nat) (o1 : Option Addr) (m1 y1 : Nat) (o2 : Option Addr) (q2 y2 : Nat) (o3 : Option Addr) (m3 y3 : Nat) (o4 : Option Addr) (q4 y4 : Nat) (BS KB : List Br) (LS KL : List Int) (W : World) : Prop where
  a : TPx w0 T o1 m1 y1 o2 q2 y2 BS LS W
  k : TPx w0 T2 o3 m3 y3 o4 q4 y4 KB KL W
section
variable {w0 : World} {T T2 : Nat} {o1 : Option Addr} {m1 y1 : Nat} {o2 : Option Addr} {q2 y2 : Nat} {o3 : Option Addr} {m3 y3 : Nat} {o4 : Option Addr} {q4 y4 : Nat} {BS KB : List Br} {LS KL : List Int} {W W' : World}
theorem K7.later (h : K7 w0 T T2 o1 m1 y1 o2 q2 y2 o3 m3 y3 o4 q4 y4 BS KB LS KL W) (hb : Below W.heap.size W W') : K7 w0 T T2 o1 m1 y1 o2 q2 y2 o3 m3 y3 o4 q4 y4 BS KB LS KL W' := ⟨h.a.later hb, h.k.later hb⟩
theorem K7.cells (h : K7 w0 T T2 o1 m1 y1 o2 q2 y2 o3 m3 y3 o4 q4 y4 BS KB LS KL W) : W.cell? ⟨T, 0, none⟩ = some (.slice o1 m1 y1) ∧ W.cell? ⟨T, 1, none⟩ = some (.slice o2 q2 y2) ∧ W.cell? ⟨T2, 0, none⟩ = some (.slice o3 m3 y3) ∧ W.cell? ⟨T2, 1, none⟩ = some (.slice o4 q4 y4) :=
  ⟨h.a.k.cell 0, h.a.k.cell 1, h.k.k.cell 0, h.k.k.cell 1⟩
end
set_option maxRecDepth 100000 in
set_option maxHeartbeats 8000000 in
theorem trieTells_true (ob : Option Addr) (m cb : Nat) (bs : List Br) (ol : Option Addr) (q cl : Nat) (lv : List Int) (op : Option Addr) (np cp : Nat) (rs : List PIn) (w : World)
    (hm : bs.length = m) (hmc : m ≤ cb) (hcb : cb ≤ 9223372036854775807) (ab : ArgR w ob cb bs) (hq : lv.length = q) (hqc : q ≤ cl) (hcl : cl ≤ 9223372036854775807) (al : ArgI .u64 w ol cl lv)
    (hpn : rs.length = np) (hpb : np * 24 ≤ 140737488351232) (ap : APs w op cp rs) :
    Calls Try.prog 3 #[.agg #[.slice ob m cb, .slice ol q cl], .slice op np cp] w fun e w' => e = .returned (.bool true) ∧ Below w.heap.size w w' := by
  have HOWN := Lib.hid (fun W (g : Below w.heap.size w W) => own7_any ob m cb ol q cl bs lv W hm hmc hcb (ab.later g) hq hqc hcl (al.later g))
  have HAP := Lib.hid (fun W (g : Below w.heap.size w W) => ap.later g)
  have HPN := Lib.hid hpn
  have HPB := Lib.hid hpb
  obtain ⟨i0, hi, hz0, hz1, hz2⟩ := infoSl
  have hmix := mixed
  clear hpn hpb hm hmc hcb ab hq hqc hcl al ap
  go_enter Try.func3, Try.ntmps3
  go_wp2_with fail
  refine (wakes7_true _).mono ?_
  rintro e w1 ⟨rfl, l1⟩
  have k4 : Blk w1 w.heap.size #[.slice ob m cb, .slice ol q cl] 25 := (Blk.new w #[.slice ob m cb, .slice ol q cl] 25).later l1
  have LO1 := Lib.hid (below_later (Gr.alloc w (.cells #[.slice ob m cb, .slice ol q cl] 25)).below l1)
  have K4 := Lib.hid k4
  obtain ⟨c0, c1, lc⟩ := k4.two
  clear k4 l1
  go_wp2_with fail
  refine (HOWN.out _ LO1.out).mono ?_
  rintro e w3 ⟨o1, m1, y1, o2, q2, y2, rfl, hB, hL, l3⟩
  have K4 := Lib.hid (K4.out.later l3)
  have LO3 := Lib.hid (below_later LO1.out l3)
  obtain ⟨BS, hBS⟩ : ∃ BS, BS = bs.take 40 := ⟨_, rfl⟩
  obtain ⟨LS, hLS⟩ : ∃ LS, LS = lv.take 60 := ⟨_, rfl⟩
  rw [← hBS] at hB
  rw [← hLS] at hL
  have hBl : BS.length = m1 := segR_len hB.seg
  have hLl : LS.length = q2 := seg_len hL.seg
  have hm1 : m1 ≤ 40 := by rw [← hBl, hBS, List.length_take]; omega
  have hq2 : q2 ≤ 60 := by rw [← hLl, hLS, List.length_take]; omega
  rw [← hBS, ← hLS] at HOWN
  have HO := Lib.hid (show TO 68 32 o1 m1 y1 o2 q2 y2 BS LS w3 from ⟨hB.mono (Nat.zero_le _), hL.mono (Nat.zero_le _)⟩)
  have HBL := Lib.hid hBl
  have HLL := Lib.hid hLl
  clear hB hL l3 c0 c1 lc LO1 hBS hLS hBl hLl
  go_upto_region 4 with fail
  obtain ⟨T, hT⟩ : ∃ T, T = w3.heap.size := ⟨_, rfl⟩
  obtain ⟨W4, hW4⟩ : ∃ W4, W4 = w3.alloc (.cells #[.slice o1 m1 y1, .slice o2 q2 y2] 25) := ⟨_, rfl⟩
  have TA : Hid (TPx w T o1 m1 y1 o2 q2 y2 BS LS W4) := Lib.hid (by rw [hW4, hT]; exact ⟨Blk.new _ _ _, HO.out.b.seg.alloc _, HO.out.l.seg.alloc _⟩)
  have st : Below w3.heap.size w3 W4 := by rw [hW4]; exact (Gr.alloc _ _).below
  rw [← hW4, ← hT]
  have K4 := Lib.hid (K4.out.later st)
  have HO := Lib.hid (HO.out.later st)
  have LO4 := Lib.hid (below_later LO3.out st)
  obtain ⟨c0, c1, lc⟩ := TA.out.k.two
  clear hW4 hT st LO3
  go_wp2_with fail
  refine (zright_any _ _ BS LS _ TA.out.b TA.out.l (by have := HLL.out; omega) (by have := HBL.out; omega)).mono ?_
  rintro e w5 ⟨rfl, g5⟩
  have TA := Lib.hid (TA.out.later g5.below)
  have K4 := Lib.hid (K4.out.later g5.below)
  have HO := Lib.hid (HO.out.later g5.below)
  have LO5 := Lib.hid (below_later LO4.out g5.below)
  obtain ⟨KB, hKB⟩ : ∃ KB, KB = knB BS LS := ⟨_, rfl⟩
  obtain ⟨KL, hKL⟩ : ∃ KL, KL = knL BS LS := ⟨_, rfl⟩
  have hCH : Chd KL.length KB := by rw [hKB, hKL]; exact kn_chd _ _
  have HKEY := Lib.hid (fun P => show (rowOf BS LS P).getD [] = zkP KB KL P from by rw [hKB, hKL]; exact kn_keys _ _ _)
  have HHAS := Lib.hid (fun P => show ((rowOf BS LS P).isSome && decide (0 < m1)) = zhOf (prs KB KL) P from by rw [hKB, hKL, ← HBL.out]; exact kn_has _ _ _)
  have HSIZ := Lib.hid (show (sizeOf7 BS LS).1 = KB.length ∧ (sizeOf7 BS LS).2 = KL.length from by rw [hKB, hKL]; exact kn_size _ _)
  have hKle : KB.length ≤ 40 ∧ KL.length ≤ 60 := by
    have := kn_le BS LS
    have h1 := HBL.out
    have h2 := HLL.out
    rw [hKB, hKL]; omega
  have HYES := Lib.hid (fun (h : ok7 BS LS) => show BS = KB ∧ LS = KL from ⟨by rw [hKB]; exact (if_pos h).symm, by rw [hKL]; exact (if_pos h).symm⟩)
  have HNO := Lib.hid (fun (h : ¬ ok7 BS LS) => show KB = [] ∧ KL = [] from ⟨by rw [hKB]; exact if_neg h, by rw [hKL]; exact if_neg h⟩)
  clear hKB hKL g5 c0 c1 lc LO4
  go_upto_if 21 with fail
  obtain ⟨T2, hT2⟩ : ∃ T2, T2 = w5.heap.size := ⟨_, rfl⟩
  obtain ⟨W6, hW6⟩ : ∃ W6, W6 = w5.alloc (.cells #[.slice none 0 0, .slice none 0 0] 25) := ⟨_, rfl⟩
  have kz : Blk W6 T2 #[.slice none 0 0, .slice none 0 0] 25 := by rw [hW6, hT2]; exact Blk.new _ _ _
  have st : Below w5.heap.size w5 W6 := by rw [hW6]; exact (Gr.alloc _ _).below
  rw [← hW6, ← hT2]
  have HLT := Lib.hid (show T < T2 ∧ w.heap.size < T2 from ⟨by rw [hT2]; exact TA.out.k.lt, by rw [hT2]; exact K4.out.lt⟩)
  have TA := Lib.hid (TA.out.later st)
  have K4 := Lib.hid (K4.out.later st)
  have HO := Lib.hid (HO.out.later st)
  have LO6 := Lib.hid (below_later LO5.out st)
  have KZ := Lib.hid kz
  clear hW6 hT2 st kz LO5
  go_cut [6] from 16 to 22 (fun _ wx => ∃ (o3 : Option Addr) (m3 y3 : Nat) (o4 : Option Addr) (q4 y4 : Nat), Hid (K7 w T T2 o1 m1 y1 o2 q2 y2 o3 m3 y3 o4 q4 y4 BS KB LS KL wx) ∧ Hid (Blk wx w.heap.size #[.slice ob m cb, .slice ol q cl] 25) ∧ Hid (Below w.heap.size w wx))
  case first =>
    by_cases hok : ok7 BS LS
    · rw [decide_eq_true hok]
      have HEE := Lib.hid (HYES.out hok)
      obtain ⟨c0, c1, lc⟩ := TA.out.k.two
      obtain ⟨u0, u1, ul⟩ := KZ.out.two
      obtain ⟨z0, z1⟩ := KZ.out.z2
      have hb : Below T2 W6 ((W6.setCell ⟨T2, 0, none⟩ (.slice o1 m1 y1)).setCell ⟨T2, 1, none⟩ (.slice o2 q2 y2)) := ((Below.refl _ _).setCell (by exact Nat.le_refl _) _).setCell (by exact Nat.le_refl _) _
      have hO := HO.out.st KZ.out (by decide) (by decide) (.slice o1 m1 y1) (.slice o2 q2 y2)
      have ks := LO6.out.trans (hb.mono (Nat.le_of_lt HLT.out.2))
      have kk : K7 w T T2 o1 m1 y1 o2 q2 y2 o1 m1 y1 o2 q2 y2 BS BS LS LS ((W6.setCell ⟨T2, 0, none⟩ (.slice o1 m1 y1)).setCell ⟨T2, 1, none⟩ (.slice o2 q2 y2)) :=
        ⟨⟨(hb.block T HLT.out.1).trans TA.out.k, hO.b.seg, hO.l.seg⟩, KZ.out.set2 _ _, hO.b.seg, hO.l.seg⟩
      have k4 : Blk _ w.heap.size #[.slice ob m cb, .slice ol q cl] 25 := (hb.block _ HLT.out.2).trans K4.out
      have KK := Lib.hid kk
      have K4 := Lib.hid k4
      have KS := Lib.hid ks
      clear hb hO ks kk k4 hok
      go_wp2_with fail
      go_meet
      exact ⟨o1, m1, y1, o2, q2, y2, by rw [← HEE.out.1, ← HEE.out.2]; exact KK, K4, KS⟩
    · rw [decide_eq_false hok]
      have HEE := Lib.hid (HNO.out hok)
      have kk : K7 w T T2 o1 m1 y1 o2 q2 y2 none 0 0 none 0 0 BS [] LS [] W6 := ⟨TA.out, KZ.out, SegR.nil _, Seg.nil _ _⟩
      have KK := Lib.hid kk
      clear kk hok
      go_wp2_with fail
      go_meet
      exact ⟨none, 0, 0, none, 0, 0, by rw [HEE.out.1, HEE.out.2]; exact KK, K4, LO6⟩
  case rest =>
    obtain ⟨o3, m3, y3, o4, q4, y4, HK, HK4, HLO⟩ := hcut
    have hm3 : KB.length = m3 := segR_len HK.out.k.b
    have hq4 : KL.length = q4 := seg_len HK.out.k.l
    have HKLE := Lib.hid hKle
    have HM3 := Lib.hid hm3
    have HQ4 := Lib.hid hq4
    have HCH := Lib.hid hCH
    clear hm3 hq4 hKle hCH TA K4 HO LO6 KZ HYES HNO
    go_upto_region 8 with fail
    obtain ⟨N, hN⟩ : ∃ N, N = np + 1 := ⟨_, rfl⟩
    obtain ⟨R, hR⟩ : ∃ R, R = pIn0 :: rs := ⟨_, rfl⟩
    have hRN : R.length = N := by rw [hR, hN, List.length_cons, HPN.out]
    have HRN := Lib.hid hRN
    have HRA := Lib.hid (fun W (g : Below w.heap.size w W) i (h : i < R.length) => show PAt W R[i] from by
      subst hR
      cases i with
      | zero => exact PAt.nil W
      | succ i =>
        rcases HAP.out W g with ⟨_, e, _⟩ | ⟨a, _, h1⟩
        · subst e; simp at h
        · exact (h1 i (by simpa using h)).2)
    clear hRN
    go_cut [25, 26, 27] (fun s25 s26 s27 wx => ∃ (o : Option Addr) (c : Nat), s25 = .slice o N c ∧ s26 = .int .i64 (N : Int) ∧ s27 = .int .i64 0 ∧ Hid (Sl wx (.slice o N c) (R.map PIn.v)) ∧ Hid (K7 w T T2 o1 m1 y1 o2 q2 y2 o3 m3 y3 o4 q4 y4 BS KB LS KL wx) ∧ Hid (Blk wx w.heap.size #[.slice ob m cb, .slice ol q cl] 25) ∧ Hid (Below w.heap.size w wx))
    case first =>
      have hk8 := HK.out.later (Gr.alloc wc (.cells #[.slice none 0 0] 23)).below
      have hb8 := HK4.out.later (Gr.alloc wc (.cells #[.slice none 0 0] 23)).below
      have hl8 := below_later HLO.out (Gr.alloc wc (.cells #[.slice none 0 0] 23)).below
      have how : Ow 23 w.heap.size (wc.alloc (.cells #[.slice none 0 0] 23)) (.slice (some ⟨wc.heap.size, 0, none⟩) 1 1) [.slice none 0 0] := Ow.new HLO.out.size rfl (by decide)
      have HW := Lib.hid how
      have KK8 := Lib.hid hk8
      have KB8 := Lib.hid hb8
      have KL8 := Lib.hid hl8
      have hRv : R.map PIn.v = [.slice none 0 0] ++ rs.map PIn.v := by rw [hR]; rfl
      have HRV := Lib.hid hRv
      have HN1 := Lib.hid hN
      clear how hk8 hb8 hl8 hRv
      rcases HAP.out _ KL8.out with ⟨rfl, e2, rfl⟩ | ⟨a, rfl, hcells⟩
      · subst e2
        obtain rfl : np = 0 := by have := HPN.out; simpa using this.symm
        go_wp2_with (at_builtin; refine wpList_append_own_none rfl _ _ 26 rfl w.heap.size 23 i0 1 Try.underlying26 hi _ 1 [.slice none 0 0] rfl HW.out rfl ?_)
        go_wp2_with fail
        go_meet
        exact ⟨_, _, by rw [HN1.out], by rw [HN1.out]; rfl, rfl, Lib.hid (by rw [HRV.out, HN1.out]; exact HW.out.sl), KK8, KB8, KL8⟩
      · have HC := Lib.hid hcells
        clear hcells
        go_wp2_with (at_builtin; refine wpList_append_own _ rfl _ _ 26 rfl w.heap.size 23 i0 (.slice none 0 0) 1 24 Try.underlying26 hi hz0 hz1 hz2 rfl (by decide) _ 1 [.slice none 0 0] rfl HW.out a np cp (rs.map PIn.v) rfl ?qc1 ?qc2 ?qc3 ?qc4 ?qc5 ?qc6 ?_)
        case qc1 => rw [List.length_map, HPN.out, Nat.mul_one]
        case qc2 =>
          intro j u hj
          have hjn : j < rs.length := by have := (List.getElem?_eq_some_iff.1 hj).1; simpa using this
          rw [(HC.out j hjn).1, ← hj]
          simp [hjn]
        case qc3 =>
          intro u hu
          obtain ⟨r, _, rfl⟩ := List.mem_map.1 hu
          rfl
        case qc4 => have := HPB.out; unfold maxLen; omega
        case qc5 => have := HPB.out; omega
        case qc6 => exact KL8.out.size
        intro v' w9 hown hgrow hnil
        have hO9 : Ow 23 w.heap.size w9 v' (R.map PIn.v) := by
          unfold Ow
          rw [HRV.out, List.length_append, List.length_map, HPN.out]
          exact hown
        have b9 : Below wc.heap.size wc w9 := ((Below.refl _ wc).alloc (Nat.le_refl _) _).grown hgrow (by simp) (by intro k hk; simp [Value.ownBlock] at hk; omega)
        obtain ⟨o9, c9, e9⟩ := hO9.shape
        rw [List.length_map, HRN.out] at e9
        subst e9
        have HK9 := Lib.hid (HK.out.later b9)
        have HB9 := Lib.hid (HK4.out.later b9)
        have HL9 := Lib.hid (below_later HLO.out b9)
        have HS9 := Lib.hid hO9.sl
        clear hown hgrow hnil hO9 b9
        go_wp2_with fail
        go_meet
        exact ⟨o9, c9, rfl, congrArg (Value.int .i64) (by have := HN1.out; omega), rfl, HS9, HK9, HB9, HL9⟩
    case rest =>
      obtain ⟨o, c, rfl, rfl, rfl, HS, HKK, HBB, HLL2⟩ := hcut
      have hNb : N ≤ 140737488355328 := by have := HPB.out; omega
      clear HK HK4 HLO hR hN
      obtain ⟨wS, hwS⟩ : ∃ wS, wS = wc := ⟨_, rfl⟩
      rw [← hwS] at HS HKK HBB HLL2 ⊢
      clear hwS
      go_upto_block 0 with fail
      go_cut [27] (fun _ wx => Hid (Below wS.heap.size wS wx))
      case first =>
        go_wp2
        go_loopw [27] (fun i wr => ∃ k : Nat, k ≤ N ∧ i = .int .i64 (k : Int) ∧ Hid (Below wS.heap.size wS wr)) (fun i _ => N - (intOf i).toNat)
        case atStart => exact ⟨0, Nat.zero_le _, rfl, Lib.hid (Below.refl _ _)⟩
        case round =>
          obtain ⟨k, hk, rfl, HB⟩ := hrel
          have hkk := HKK.out.later HB.out
          by_cases hkn : k < N
          · have hkR : k < R.length := by rw [HRN.out]; exact hkn
            obtain ⟨b, f, rfl, hbl, d1⟩ : ∃ b f, o = some ⟨b, f, none⟩ ∧ b < wr.heap.size ∧ wr.cell? ⟨b, f + k, none⟩ = some (.slice R[k].o R[k].n R[k].c) := by
              rcases (HS.out.later HB.out).2 with ⟨_, e⟩ | ⟨b, off, cap, e, _, _, h4, h5⟩
              · rw [List.map_eq_nil_iff] at e; subst e; simp at hkR
              · injection e with e1 _ _
                exact ⟨b, off, e1, h4, by have := h5 k (by rw [List.length_map]; exact hkR); rw [this, List.getElem_map]; rfl⟩
            have pa := HRA.out wr (below_later HLL2.out HB.out) k hkR
            obtain ⟨r, hr⟩ : ∃ r, r = R[k] := ⟨_, rfl⟩
            rw [← hr] at d1 pa
            obtain ⟨ro, rn, rc, rl⟩ := r
            obtain ⟨p1, p2, p3, p4⟩ := pa
            simp only at d1 p1 p2 p3 p4
            clear hr
            by_cases h12 : k = 12
            · have t12 : ((k : Int) == 12) = true := by simp; omega
              have HBX := Lib.hid HB.out
              clear hkk p4 h12
              go_wp2
              go_meet
              exact HBX
            · have t12 : ((k : Int) == 12) = false := by simp; omega
              obtain ⟨n4, hn4⟩ : ∃ n4, n4 = min rn 4 := ⟨_, rfl⟩
              obtain ⟨P, hP⟩ : ∃ P, P = rl.take 4 := ⟨_, rfl⟩
              have hPl : P.length = n4 := by rw [hP, List.length_take]; omega
              have hPA : PathAt wr ro P := by rw [hP]; exact PathAt.take p4 4
              have im : min (rn : Int) 4 = (n4 : Int) := by omega
              have j1 : n4 ≤ rc := by omega
              have j3 : (n4 : Int) ≤ (rc : Int) := by omega
              have j4 : n4 ≤ 4 := by omega
              have HKEYP := HKEY.out P
              have HHASP := HHAS.out P
              have HY := Lib.hid (ykeys_any o1 m1 y1 o2 q2 y2 BS LS ro n4 rc P wr hkk.a.b hkk.a.l HBL.out HLL.out (by omega) (by omega) hPA hPl (by omega))
              obtain ⟨Z, hZ⟩ : ∃ Z, Z = (rowOf BS LS P).getD [] := ⟨_, rfl⟩
              rw [← hZ] at HY
              rw [← hZ] at HKEYP
              have HYH := Lib.hid (fun W (g : Below wr.heap.size wr W) => yhas_any o1 m1 y1 o2 q2 y2 BS LS ro n4 rc P W (hkk.later g).a.b (hkk.later g).a.l HBL.out HLL.out (by omega) (by omega) (hPA.later g) hPl (by omega))
              rw [HHASP] at HYH
              have HZK := Lib.hid (fun W (g : Below wr.heap.size wr W) => zkeys_any (.slice o3 m3 y3) (.slice o4 q4 y4) KB KL ro n4 rc P W (hkk.later g).k.b (hkk.later g).k.l (by have := HKLE.out; omega) (by have := HKLE.out; omega) HCH.out (hPA.later g) hPl (by omega))
              rw [← HKEYP] at HZK
              have HZH := Lib.hid (fun W (g : Below wr.heap.size wr W) => zhas_any (.slice o3 m3 y3) (.slice o4 q4 y4) KB KL ro n4 rc P W (hkk.later g).k.b (hkk.later g).k.l (by have := HKLE.out; omega) (by have := HKLE.out; omega) HCH.out (hPA.later g) hPl (by omega))
              obtain ⟨D, hD⟩ : ∃ D, D = zhOf (prs KB KL) P := ⟨_, rfl⟩
              rw [← hD] at HYH HZH
              have HCL := Lib.hid (fun W (g : Below wr.heap.size wr W) => show (W.cell? ⟨T, 0, none⟩ = some (.slice o1 m1 y1) ∧ W.cell? ⟨T, 1, none⟩ = some (.slice o2 q2 y2) ∧ W.cell? ⟨T2, 0, none⟩ = some (.slice o3 m3 y3) ∧ W.cell? ⟨T2, 1, none⟩ = some (.slice o4 q4 y4)) ∧ Below wr.heap.size wr W from ⟨(hkk.later g).cells, g⟩)
              obtain ⟨c0, c1, lc⟩ := hkk.a.k.two
              clear hn4 hP hPl hPA HKEYP HHASP hZ hD hkk p1 p2 p4 h12
              go_wp2_with fail
              refine HY.out.mono ?_
              rintro e w10 ⟨v10, rfl, hO, l10⟩
              have HO10 := Lib.hid hO
              have HVS := Lib.hid (fun W (g : Below w10.heap.size w10 W) => hO.seg.later g)
              have L10 := Lib.hid l10
              clear hO l10 c0 c1 lc HY
              go_upto_region 14 with fail
              go_cut [56] (fun s wx => s = .bool false ∧ Hid (Below w10.heap.size w10 wx))
              case first =>
                have hws : Below w10.heap.size w10 w10 := Below.refl _ _
                go_region_held3 (fun W' => ((W'.cell? ⟨T, 0, none⟩ = some (.slice o1 m1 y1) ∧ W'.cell? ⟨T, 1, none⟩ = some (.slice o2 q2 y2) ∧ W'.cell? ⟨T2, 0, none⟩ = some (.slice o3 m3 y3) ∧ W'.cell? ⟨T2, 1, none⟩ = some (.slice o4 q4 y4)) ∧ Below wr.heap.size wr W'))
                  (first | exact HCL.out _ (below_later L10.out hws) | exact HCL.out _ (below_later L10.out hws.drew))
                  (first
                    | (go_at_call 16; (with_reducible refine (HZK.out _ (by first | exact below_later L10.out hws | exact below_later L10.out hws.drew)).mono ?_); rintro e w3 ⟨vz, rfl, hZ, lF⟩; have hws := (by first | exact below_later hws lF | exact below_later hws.drew lF : Below w10.heap.size w10 w3))
                    | (go_at_call 15; (with_reducible refine (equalu_true _ _ Z _ (HVS.out _ (by first | exact hws | exact hws.drew)) (by first | exact hZ.seg | exact hZ.seg.drew)).mono ?_); rintro e w3 ⟨rfl, lF⟩; have hws := (by first | exact below_later hws lF | exact below_later hws.drew lF : Below w10.heap.size w10 w3))
                    | (go_at_call 17; (with_reducible refine (HYH.out _ (by first | exact below_later L10.out hws | exact below_later L10.out hws.drew)).mono ?_); rintro e w3 ⟨rfl, lF⟩; have hws := (by first | exact below_later hws lF | exact below_later hws.drew lF : Below w10.heap.size w10 w3))
                    | (go_at_call 18; (with_reducible refine (HZH.out _ (by first | exact below_later L10.out hws | exact below_later L10.out hws.drew)).mono ?_); rintro e w3 ⟨rfl, lF⟩; have hws := (by first | exact below_later hws lF | exact below_later hws.drew lF : Below w10.heap.size w10 w3)))
                all_goals
                  go_wp2_with fail
                  go_meet
                  exact ⟨rfl, Lib.hid hws⟩
              case rest =>
                obtain ⟨rfl, HB11⟩ := hcut
                obtain ⟨o10, c10, e10⟩ := HO10.out.shape
                obtain ⟨zn, hzn⟩ : ∃ zn, zn = Z.length := ⟨_, rfl⟩
                rw [← hzn] at e10
                subst e10
                have hz63 : zn ≤ 9223372036854775807 := by rw [hzn]; exact HO10.out.len
                have HOS := Lib.hid (show ∃ L : List Int, L.length = zn ∧ Owns .u64 32 wr.heap.size wc (.slice o10 zn c10) L from ⟨Z, hzn.symm, HO10.out.later HB11.out⟩)
                have HBS := Lib.hid (below_later HB.out (below_later L10.out HB11.out))
                have HWS := Lib.hid (show wS.heap.size ≤ wr.heap.size from HB.out.size)
                clear hzn HO10 HVS L10 HB11 HZK HZH HYH HCL HB
                go_wp2
                go_loopw [59] (fun i wz => ∃ j : Nat, j ≤ zn ∧ i = .int .i64 (j : Int) ∧ Hid (∃ L : List Int, L.length = zn ∧ Owns .u64 32 wr.heap.size wz (.slice o10 zn c10) L) ∧ Hid (Below wS.heap.size wS wz)) (fun i _ => zn - (intOf i).toNat)
                case atStart => exact ⟨0, Nat.zero_le _, rfl, HOS, HBS⟩
                case round =>
                  obtain ⟨j, hj, rfl, HL, HBZ⟩ := hrel
                  by_cases hjn : j < zn
                  · obtain ⟨L, hLl, hOL⟩ := HL.out
                    have hjL : j < L.length := by omega
                    obtain ⟨g, cap, e, -, -, hgB, hgl, d2, d3, -⟩ := hOL.set hjL 0
                    injection e with e1 _ _
                    subst e1
                    have HST := Lib.hid (fun x => hOL.store hjL x)
                    have HLL3 := Lib.hid hLl
                    have HGB := Lib.hid (show wS.heap.size ≤ g by have := HWS.out; omega)
                    obtain ⟨y, hy⟩ : ∃ y, y = L[j] := ⟨_, rfl⟩
                    rw [← hy] at d2
                    clear hOL hLl hjL hy hgB
                    go_wp2
                    go_roundw
                    case rel => exact ⟨j + 1, by omega, by go_num, Lib.hid ⟨_, by rw [List.length_set]; exact HLL3.out, HST.out _⟩, Lib.hid (HBZ.out.setCell HGB.out _)⟩
                    case measure => simp [intOf]; omega
                  · go_wp2
                    go_roundw
                    case rel => exact ⟨k + 1, by omega, by go_num, HBZ⟩
                    case measure => simp [intOf]; omega
          · have HBX := Lib.hid HB.out
            clear hkk
            go_wp2
            go_meet
            exact HBX
      case rest =>
        have hkk := HKK.out.later hcut.out
        have HK4 := Lib.hid (HBB.out.later hcut.out)
        have HLO := Lib.hid (below_later HLL2.out hcut.out)
        obtain ⟨c0, c1, lc⟩ := hkk.a.k.two
        have HK := Lib.hid hkk
        obtain ⟨s1, s2⟩ := HSIZ.out
        have hm3 := HM3.out
        have hq4 := HQ4.out
        rw [hm3] at s1
        rw [hq4] at s2
        clear hkk HKK HBB HLL2 hcut HRA HRN HKEY HHAS HCH HM3 HQ4 HSIZ hm3 hq4 HS HAP
        go_wp2_with fail
        refine (ysize_any o1 m1 y1 o2 q2 y2 BS LS _ HK.out.a.b HK.out.a.l HBL.out HLL.out (by omega) (by omega)).mono ?_
        rw [s1, s2]
        rintro e w12 ⟨rfl, l12⟩
        have HK12 := Lib.hid (fun W (g : Below w12.heap.size w12 W) => (HK.out.later l12).later g)
        have HB12 := Lib.hid (fun W (g : Below w12.heap.size w12 W) => (HK4.out.later l12).later g)
        have HL12 := Lib.hid (fun W (g : Below w12.heap.size w12 W) => below_later (below_later HLO.out l12) g)
        have HCL := Lib.hid (fun W (g : Below w12.heap.size w12 W) => show ((W.cell? ⟨T, 0, none⟩ = some (.slice o1 m1 y1) ∧ W.cell? ⟨T, 1, none⟩ = some (.slice o2 q2 y2) ∧ W.cell? ⟨T2, 0, none⟩ = some (.slice o3 m3 y3) ∧ W.cell? ⟨T2, 1, none⟩ = some (.slice o4 q4 y4)) ∧ W.cell? ⟨w.heap.size, 0, none⟩ = some (.slice ob m cb) ∧ W.cell? ⟨w.heap.size, 1, none⟩ = some (.slice ol q cl)) ∧ Below w12.heap.size w12 W from ⟨⟨(HK12.out W g).cells, (HB12.out W g).cell 0, (HB12.out W g).cell 1⟩, g⟩)
        clear c0 c1 lc HK HK4 HLO l12 s1 s2
        go_upto_region 23 with fail
        go_cut [4] (fun s wx => s = .bool true ∧ Hid (Below w12.heap.size w12 wx))
        case first =>
          have hws : Below w12.heap.size w12 w12 := Below.refl _ _
          go_region_held3 (fun W' => ((W'.cell? ⟨T, 0, none⟩ = some (.slice o1 m1 y1) ∧ W'.cell? ⟨T, 1, none⟩ = some (.slice o2 q2 y2) ∧ W'.cell? ⟨T2, 0, none⟩ = some (.slice o3 m3 y3) ∧ W'.cell? ⟨T2, 1, none⟩ = some (.slice o4 q4 y4)) ∧ W'.cell? ⟨w.heap.size, 0, none⟩ = some (.slice ob m cb) ∧ W'.cell? ⟨w.heap.size, 1, none⟩ = some (.slice ol q cl)) ∧ Below w12.heap.size w12 W')
            (first | exact HCL.out _ hws | exact HCL.out _ hws.drew)
            (first
              | (go_at_call 12; (with_reducible refine (HOWN.out _ (by first | exact HL12.out _ hws | exact HL12.out _ hws.drew)).mono ?_); rintro e w3 ⟨oa, ma, ya, oc, qc, yc, rfl, hB, hL, lF⟩; have hws := (by first | exact below_later hws lF | exact below_later hws.drew lF : Below w12.heap.size w12 w3))
              | (go_at_call 20; (with_reducible refine (zsame_true _ _ _ _ BS LS _ (by first | exact (HK12.out _ hws).a.b | exact (HK12.out _ hws.drew).a.b) (by first | exact (HK12.out _ hws).a.l | exact (HK12.out _ hws.drew).a.l) (by first | exact hB.seg | exact hB.seg.drew) (by first | exact hL.seg | exact hL.seg.drew)).mono ?_); rintro e w3 ⟨rfl, lF⟩; have hws := (by first | exact below_later hws lF | exact below_later hws.drew lF : Below w12.heap.size w12 w3)))
          all_goals
            go_wp2_with fail
            go_meet
            exact ⟨rfl, Lib.hid hws⟩
        case rest =>
          obtain ⟨rfl, HWW⟩ := hcut
          have HF := Lib.hid (HL12.out _ HWW.out)
          go_wp2_with fail
          go_ret
          exact ⟨rfl, HF.out⟩
end Go.Proofs.Ytjfnhjmdgfkgnaa

