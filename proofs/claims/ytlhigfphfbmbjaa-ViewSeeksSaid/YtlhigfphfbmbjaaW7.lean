/- tiers.said's say: a row of pairs laid into the map, where nothing stands yet. -/
import Derived.Test.YtlhigfphfbmbjaaW6
import Derived.Test.YtlhigfphfbmbjaaN12
namespace Go.Proofs.Kit
open Go.RowKit
/-- What is said behind a row. -/
def sayP (f : Pr → Int) (l : List Pr) (k : Int) (p : Pr) : Int := if f p = 0 ∧ p ∈ l then k else f p
theorem sayP_nil (f : Pr → Int) (k : Int) : sayP f [] k = f := by
  funext p
  simp [sayP]
theorem sayP_had {f : Pr → Int} {l : List Pr} {k : Int} {x : Pr} (h : sayP f l k x ≠ 0) : sayP f (l ++ [x]) k = sayP f l k := by
  funext p
  unfold sayP at *
  by_cases e : p = x
  · subst e
    by_cases c : f p = 0
    · by_cases d : p ∈ l
      · simp [c, d]
      · simp [c, d] at h
    · simp [c]
  · simp [e]
theorem sayP_new {f : Pr → Int} {l : List Pr} {k : Int} {x : Pr} (h : sayP f l k x = 0) : sayP f (l ++ [x]) k = fun p => if p = x then k else sayP f l k p := by
  funext p
  by_cases e : p = x
  · subst e
    have : f p = 0 := by
      unfold sayP at h
      split at h
      · rename_i c; exact c.1
      · exact h
    simp [sayP, this]
  · simp [sayP, e]
end Go.Proofs.Kit
namespace Go.Proofs.Ytlhigfphfbmbjaa
open Go.RowKit Go.Proofs.Kit Go.Maps
theorem SegP.map {w w' : World} {v : Value} {l : List Pr} {bm n : Nat} {f : Pr → Int} (h : SegP w v l) (hm : WM w bm n f) (hg : w.grownBy w' (some bm)) : SegP w' v l := by
  refine ⟨h.1, ?_⟩
  rcases h.2 with h | ⟨b, off, cap, h1, h2, h3, h4, h5⟩
  · exact .inl h
  · refine .inr ⟨b, off, cap, h1, h2, h3, Nat.lt_of_lt_of_le h4 hg.size, fun i hi => ?_⟩
    have hne : b ≠ bm := by
      rintro rfl
      obtain ⟨D, ⟨es, clock, hb, _⟩, _⟩ := hm
      have := (h5 i hi).1
      simp [World.cell?, hb] at this
    have e := hg.block b h4 (fun e => hne (by injection e))
    exact ⟨(World.cell?_of_block (a := ⟨b, off + i * 2, none⟩) e).trans (h5 i hi).1, (World.cell?_of_block (a := ⟨b, off + i * 2 + 1, none⟩) e).trans (h5 i hi).2⟩
theorem Blk.ne_map {w : World} {b bm n : Nat} {vs : Array Value} {t : TypeId} {f : Pr → Int} (h : Blk w b vs t) (hm : WM w bm n f) : b ≠ bm := by
  rintro rfl
  obtain ⟨D, ⟨es, clock, hb, _⟩, _⟩ := hm
  rw [show w.heap[b]? = _ from h] at hb
  cases hb
theorem Blk.map {w w' : World} {b bm n : Nat} {vs : Array Value} {t : TypeId} {f : Pr → Int} (h : Blk w b vs t) (hm : WM w bm n f) (hg : w.grownBy w' (some bm)) : Blk w' b vs t := (hg.block b h.lt (fun e => Blk.ne_map h hm (by injection e))).trans h
theorem zeroW (w : World) : (zeroValue 127).run Try.prog w = .ok (.int .i8 0) w := by kernel_rfl
set_option maxRecDepth 100000 in
set_option maxHeartbeats 4000000 in
theorem said1_any (v : Value) (l : List Pr) (k : Int) (hk : k = 1 ∨ k = 2) (bx bm n : Nat) (f : Pr → Int) (w : World) (hs : SegP w v l) (hw : ∀ p ∈ l, Wp p) (hb : Blk w bx #[.map (some bm)] 123) (hm : WM w bm n f) (hn : n + l.length ≤ 4000000000) :
    Calls Try.prog 104 #[v, .int .i8 k, .pointer (some ⟨bx, 0, none⟩)] w fun e w' => e = .returned (.tuple #[]) ∧ WM w' bm (n + l.length) (sayP f l k) ∧ w.grownBy w' (some bm) := by
  have hk0 : k ≠ 0 := by omega
  have hkw : (Lit.int .i8 k).wf = true := by rcases hk with rfl | rfl <;> decide
  have hl62 := hs.1
  obtain ⟨o, c, rfl, hc, hcm, _⟩ := hs.shape
  obtain ⟨m, hmm⟩ : ∃ m, m = l.length := ⟨_, rfl⟩
  rw [← hmm] at hs hl62 hn hc ⊢
  have HM := Lib.hid hmm
  have HS := Lib.hid hs
  have HW := Lib.hid hw
  have HB := Lib.hid hb
  have HMap := Lib.hid hm
  have hlt := hm.lt
  clear hs hw hb hm hmm hk
  go_enter Try.func104, Try.ntmps104
  go_wp2
  go_loopw [9] (fun i wr => ∃ j : Nat, j ≤ m ∧ i = .int .i64 (j : Int) ∧ Hid (WM wr bm (n + j) (sayP f (l.take j) k)) ∧ Hid (w.grownBy wr (some bm))) (fun i _ => m - (intOf i).toNat)
  case atStart => exact ⟨0, Nat.zero_le _, rfl, Lib.hid (by rw [List.take_zero, sayP_nil]; exact HMap.out), Lib.hid (World.grownBy.refl _ _)⟩
  case round =>
    obtain ⟨j, hj, rfl, HWM, HG⟩ := hrel
    by_cases hlt2 : j < m
    · have hjl : j < l.length := by have := HM.out; omega
      have hsr := SegP.map HS.out HMap.out HG.out
      obtain ⟨b, fo, rfl, hbl, hcells⟩ := hsr.has hjl
      obtain ⟨d1, d2⟩ := hcells j hjl
      have hbx := Blk.map HB.out HMap.out HG.out
      have cx := hbx.cell 0
      have lx := hbx.lt
      simp only [List.getElem?_toArray, List.getElem?_cons_zero] at cx
      have hwx := HW.out _ (List.getElem_mem hjl)
      have HN := Lib.hid (List.take_succ_eq_append_getElem hjl)
      obtain ⟨x, hx⟩ : ∃ x, x = l[j] := ⟨_, rfl⟩
      rw [← hx] at d1 d2 hwx HN
      obtain ⟨x1, x2⟩ := x
      simp only at d1 d2
      have hlt3 := HWM.out.lt
      obtain ⟨D, hown, hD⟩ := HWM.out
      have HOWN := Lib.hid hown
      have HD := Lib.hid hD
      have HKEY := Lib.hid (keyP hwx)
      have HWX := Lib.hid hwx
      have hgA := World.grownBy_alloc wr (.cells #[.int .u64 x1, .int .u64 x2] 53) none
      have HGA := Lib.hid hgA
      clear hown hD hwx hx hcells hsr hbx hgA
      have HPUT := Lib.hid (put_says (k := k) HOWN.out HD.out HWX.out hk0)
      have hcap : n + j < maxLen := by unfold maxLen; omega
      go_wp2_with (first | (at_lookup; refine wpList_lookup_own_int _ rfl _ _ 123 rfl 53 127 .i8 lawP Try.underlying123 Try.underlying127 (zeroW _) bm _ D rfl (HOWN.out.alloc _) _ _ rfl HKEY.out ?_; intro c hat hwc) | (at_mapUpdate; refine wpList_mapUpdate_own _ rfl _ _ _ 123 rfl 53 127 lawP Try.underlying123 _ bm _ D rfl (HOWN.out.alloc _) hcap _ _ _ rfl rfl HKEY.out _ [] (plainElem_int Try.underlying127 hkw) ?_; intro w2 hown2 hgrow2))
      · rename_i h9
        have hc' : c = sayP f (l.take j) k (x1, x2) := by
          rw [(HD.out _ HWX.out).1] at hat
          injection hat with hat
          injection hat with _ hat
          exact hat.symm
        have hc0 : c = 0 := by simpa using h9
        have HG2 := Lib.hid ((HG.out.andThen HGA.out (by simp)).andThen hgrow2 (by intro j h; right; exact h))
        have HW2 : Hid (WM w2 bm (n + (j + 1)) (sayP f (l.take (j + 1)) k)) := Lib.hid (by
          rw [HN.out, sayP_new (hc'.symm.trans hc0)]
          exact ⟨_, hown2, HPUT.out⟩)
        clear hown2 hgrow2 hat hc' hc0
        go_wp2
        go_roundw
        case rel => exact ⟨j + 1, by omega, by go_num, HW2, HG2⟩
        case measure => simp [intOf]; omega
      · rename_i h9
        have hc' : c = sayP f (l.take j) k (x1, x2) := by
          rw [(HD.out _ HWX.out).1] at hat
          injection hat with hat
          injection hat with _ hat
          exact hat.symm
        have hc0 : c ≠ 0 := by simpa using h9
        have HG2 := Lib.hid (HG.out.andThen HGA.out (by simp))
        have HW2 : Hid (WM (wr.alloc (.cells #[.int .u64 x1, .int .u64 x2] 53)) bm (n + (j + 1)) (sayP f (l.take (j + 1)) k)) := Lib.hid (by
          rw [HN.out, sayP_had (by rw [← hc']; exact hc0)]
          exact (HWM.out.kept HGA.out (by simp)).mono (by omega))
        go_roundw
        case rel => exact ⟨j + 1, by omega, by go_num, HW2, HG2⟩
        case measure => simp [intOf]; omega
    · have HT := Lib.hid (show l.take j = l from List.take_of_length_le (by have := HM.out; omega))
      obtain rfl : j = m := by omega
      go_wp2
      go_end0
      rw [HT.out] at HWM
      exact ⟨rfl, HWM.out, HG.out⟩
end Go.Proofs.Ytlhigfphfbmbjaa

