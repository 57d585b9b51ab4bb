import Derived.Test.YtmghbejbdkoehaaK10
import Derived.Test.YtmghbejbdkoehaaMj
/- dict.readNames: a kind's names out of bytes. -/
namespace Go.Proofs.Ytmghbejbdkoehaa
open Go.RowKit Go.Proofs.Kit Go.Shelf

/-- So many texts that stand at a place of bytes, and the place behind them. -/
def rdTexts (bs : List Int) : Nat → Nat → Option (List ByteArray × Nat)
  | 0, p => some ([], p)
  | m + 1, p => match rdCounted 4000 bs p with
    | .error _ => none
    | .ok (l, q) => (rdTexts bs m q).map fun r => (ofB l :: r.1, r.2)
/-- The names of a kind that stand there. -/
def rdNames (bs : List Int) (p : Nat) : Option (List ByteArray × Nat) := match rdN bs p with
  | .error _ => none
  | .ok (x, q) => if 128 < x then none else rdTexts bs x.toNat q
theorem rdTexts_succ_err {bs : List Int} {m p : Nat} {c : Int} (h : rdCounted 4000 bs p = .error c) : rdTexts bs (m + 1) p = none := by simp [rdTexts, h]
theorem rdTexts_succ_ok {bs l : List Int} {m p q : Nat} (h : rdCounted 4000 bs p = .ok (l, q)) : rdTexts bs (m + 1) p = (rdTexts bs m q).map fun r => (ofB l :: r.1, r.2) := by simp [rdTexts, h]
theorem rdNum_code : ∀ (l : List Int) (m : Nat) (acc c : Int), rdNum m acc l = .error c → c ≠ 0
  | [], m, acc, c, h => by simp [rdNum] at h; omega
  | x :: t, m, acc, c, h => by
    unfold rdNum at h
    split at h
    · split at h
      · injection h with h; omega
      · cases h
    · split at h
      · injection h with h; omega
      · exact rdNum_code t _ _ c h
theorem rdN_code {bs : List Int} {p : Nat} {c : Int} (h : rdN bs p = .error c) : c ≠ 0 := by
  unfold rdN at h
  cases e : rdNum 0 0 (bs.drop p) with
  | error d => rw [e] at h; simp [Except.map] at h; subst h; exact rdNum_code _ _ _ _ e
  | ok y => rw [e] at h; simp [Except.map] at h
theorem rdCounted_code {bs : List Int} {p : Nat} {c : Int} {limit : Nat} (h : rdCounted limit bs p = .error c) : c ≠ 0 := by
  cases e : rdN bs p with
  | error d => rw [rdN_err e] at h; injection h with h; subst h; exact rdN_code e
  | ok y =>
    rw [rdN_ok e] at h
    split at h
    · injection h with h; omega
    · unfold rdCut at h
      split at h
      · injection h with h; omega
      · cases h
theorem mkSu (n : Nat) (hn : n ≤ 1000000000) (W : World) : (Instr.makeSlice 22 (.int .u64 (n : Int)) (.int .u64 (n : Int))).run Try.prog W = .ok (.slice (some ⟨W.heap.size, 0, none⟩) n n) (W.alloc (.cells (List.replicate n (Value.string ⟨#[]⟩)).toArray 9)) := by
  obtain ⟨i0, hi, hz0, hz1, hz2⟩ := infos
  have := run_make W 22 9 i0 _ Try.underlying22 hi hz0 .u64 .u64 (n : Int) (n : Int) (by omega) (by omega) (by rw [hz2]; omega) (by omega)
  rw [hz1, Nat.mul_one] at this
  simpa [made_rep, Value.cells] using this
/-- A text laid into a row of texts. -/
theorem put_at (pre : List ByteArray) (s : ByteArray) (n k : Nat) (hp : pre.length = k) (hk : k < n) : ((pre.map Value.string) ++ List.replicate (n - k) (Value.string ⟨#[]⟩)).set k (.string s) = ((pre ++ [s]).map Value.string) ++ List.replicate (n - (k + 1)) (Value.string ⟨#[]⟩) := by
  obtain ⟨m, hm⟩ : ∃ m, n - k = m + 1 := ⟨n - k - 1, by omega⟩
  rw [hm, List.replicate_succ, List.set_append_right _ _ (by simp; omega)]
  simp only [List.length_map, hp, Nat.sub_self, List.set_cons_zero, List.map_append, List.map_cons, List.map_nil, List.append_assoc, List.singleton_append]
  congr 3
  omega
set_option maxRecDepth 100000 in
set_option maxHeartbeats 2000000 in
theorem readNames_any (p : Nat) (bv : Value) (bs : List Int) (w : World) (hs : Seg .u8 w bv bs) (hb : Byt bs) (hl : bs.length ≤ 1000000000) (hp : p ≤ bs.length) :
    Calls Try.prog 58 #[bv, .int .i64 (p : Int)] w fun e w' => Below w.heap.size w w' ∧ ((∃ l q v, rdNames bs p = some (l, q) ∧ e = .returned (.tuple #[v, .int .i64 (q : Nat), .int .i64 0]) ∧ Ow 9 w.heap.size w' v (l.map Value.string)) ∨ (∃ c : Int, c ≠ 0 ∧ rdNames bs p = none ∧ e = .returned (.tuple #[nilV, .int .i64 0, .int .i64 c]))) := by
  have HSG := Lib.hid hs
  have HBY := Lib.hid hb
  have hmk := mkSu
  obtain ⟨ob, cb, rfl, _, _, _⟩ := hs.shape
  obtain ⟨nb, hnb⟩ : ∃ nb, nb = bs.length := ⟨_, rfl⟩
  have HNB := Lib.hid hnb
  rw [← hnb] at hl hp ⊢
  clear hs hb hnb
  go_enter Try.func58, Try.ntmps58
  go_wp2_with fail
  rw [HNB.out]
  refine (readn_any p _ bs w HSG.out HBY.out (by have := HNB.out; omega) (by have := HNB.out; omega)).mono ?_
  rw [← HNB.out]
  rintro e w1 ⟨hB1, ⟨x, q, v, hr, rfl, rfl⟩ | ⟨c, hr, rfl⟩⟩
  · obtain ⟨n, rfl, hn64, hpq, hqn, _⟩ := rdN_back HBY.out hr
    by_cases h128 : 128 < n
    · have g1 : decide ((128 : Int) < (n : Int)) = true := by simp; omega
      have hres : rdNames bs p = none := by unfold rdNames; rw [hr]; simp; omega
      have HRES := Lib.hid hres
      clear hres hr hmk
      go_wp2
      go_ret3
      exact ⟨hB1, .inr ⟨6, by decide, HRES.out, rfl⟩⟩
    · have g1 : decide ((128 : Int) < (n : Int)) = false := by simp; omega
      have hres : rdNames bs p = rdTexts bs n q := by unfold rdNames; rw [hr]; simp; omega
      have HRES := Lib.hid hres
      have hmk := hmk n (by omega)
      have HQN := Lib.hid hqn
      clear hres hr hqn
      go_wp2
      obtain ⟨W2, hW2⟩ : ∃ W2, W2 = w1.alloc (.cells (Array.replicate n (Value.string ⟨#[]⟩)) 9) := ⟨_, rfl⟩
      have o2 : Ow 9 w.heap.size W2 (.slice (some ⟨w1.heap.size, 0, none⟩) n n) (List.replicate n (Value.string ⟨#[]⟩)) := by
        rw [hW2]
        have := Ow.new (w := w1) (t := 9) (B := w.heap.size) (l := List.replicate n (Value.string ⟨#[]⟩)) hB1.size (vs := Array.replicate n (Value.string ⟨#[]⟩)) (by simp) (by simp; omega)
        simpa using this
      have b2 : Below w.heap.size w W2 := by rw [hW2]; exact hB1.trans ((Gr.alloc _ _).below.mono hB1.size)
      rw [← hW2]
      clear hW2 hmk
      go_loopw [8, 9, 11, 28] (fun nx _ _ i wr => ∃ (k z : Nat) (pre : List ByteArray), k ≤ n ∧ i = .int .i64 (k : Int) ∧ nx = .int .i64 (z : Int) ∧ z ≤ nb ∧ pre.length = k ∧ Hid (rdTexts bs n q = (rdTexts bs (n - k) z).map fun r => (pre ++ r.1, r.2)) ∧ Below w.heap.size w wr ∧ Ow 9 w.heap.size wr (.slice (some ⟨w1.heap.size, 0, none⟩) n n) ((pre.map Value.string) ++ List.replicate (n - k) (Value.string ⟨#[]⟩))) (fun _ _ _ i _ => n - (intOf i).toNat)
      case atStart => exact ⟨0, q, [], Nat.zero_le _, rfl, rfl, by have := HNB.out; have := HQN.out; omega, rfl, Lib.hid (by simp), b2, by simpa using o2⟩
      case round =>
        obtain ⟨k, z, pre, hk, rfl, rfl, hz, hpl, HT, hB, hO⟩ := hrel
        by_cases hlt : k < n
        · have HO := Lib.hid hO
          have HB := Lib.hid hB
          have HPL := Lib.hid hpl
          clear hO hB hpl o2 b2
          go_wp2_with fail
          rw [HNB.out]
          refine (reads_any z _ bs wr (HSG.out.later HB.out) HBY.out (by have := HNB.out; omega) (by have := HNB.out; omega)).mono ?_
          rw [← HNB.out]
          rintro e w3 ⟨hB3, ⟨x, z', v, hr3, rfl, rfl⟩ | ⟨c, hr3, rfl⟩⟩
          · have hbk := rdCounted_back HBY.out hr3
            obtain ⟨g, cap, eg, hcap, hcm, hgB, hgl, hc0, hf0, hO'⟩ := (HO.out.later hB3).set (i := k) (by have := HPL.out; simp; omega) (.string (ofB x))
            rw [put_at pre _ n k HPL.out hlt] at hO'
            injection eg with eg1 eg2 eg3
            injection eg1 with eg1
            injection eg1 with eg1
            subst eg1
            obtain ⟨y, hy⟩ : ∃ y, y = (pre.map Value.string ++ List.replicate (n - k) (Value.string ⟨#[]⟩))[k]'(by have := HPL.out; simp; omega) := ⟨_, rfl⟩
            have hn1 : n - k = (n - (k + 1)) + 1 := by omega
            have hT' : rdTexts bs n q = (rdTexts bs (n - (k + 1)) z').map fun r => ((pre ++ [ofB x]) ++ r.1, r.2) := by
              rw [HT.out, hn1, rdTexts_succ_ok hr3, Option.map_map]
              congr 1
              funext r
              simp
            have HT' := Lib.hid hT'
            have HO' := Lib.hid hO'
            have HB3 := Lib.hid (HB.out.trans (hB3.mono HB.out.size))
            have hzz : z' ≤ nb := by have := HNB.out; have := hbk.2.2.1; omega
            rw [← hy] at hc0
            have q1 : (k : Int) < (n : Int) := by omega
            clear hT' hO' hB3 hbk hr3 hy eg2 eg3
            go_wp2
            go_roundw
            case rel => exact ⟨k + 1, z', pre ++ [ofB x], by omega, by go_num, rfl, hzz, by simp [HPL.out], HT', HB3.out.setCell (by simpa using hgB) _, HO'.out⟩
            case measure => simp [intOf]; omega
          · have hc := rdCounted_code hr3
            obtain ⟨g, cap, eg, hcap, hcm, hgB, hgl, hc0, hf0, hO'⟩ := (HO.out.later hB3).set (i := k) (by have := HPL.out; simp; omega) (.string ⟨#[]⟩)
            injection eg with eg1 eg2 eg3
            injection eg1 with eg1
            injection eg1 with eg1
            subst eg1
            obtain ⟨y, hy⟩ : ∃ y, y = (pre.map Value.string ++ List.replicate (n - k) (Value.string ⟨#[]⟩))[k]'(by have := HPL.out; simp; omega) := ⟨_, rfl⟩
            rw [← hy] at hc0
            have hn1 : n - k = (n - (k + 1)) + 1 := by omega
            have hres : rdNames bs p = none := by rw [HRES.out, HT.out, hn1, rdTexts_succ_err hr3]; rfl
            have HR2 := Lib.hid hres
            have HB3 := Lib.hid (HB.out.trans (hB3.mono HB.out.size))
            have q1 : (k : Int) < (n : Int) := by omega
            have hcn : (c != 0) = true := by simpa using hc
            clear hres hO' hB3 hr3 hy eg2 eg3
            go_wp2
            go_ret3
            exact ⟨HB3.out.setCell (by simpa using hgB) _, .inr ⟨c, hc, HR2.out, rfl⟩⟩
        · obtain rfl : k = n := by omega
          have hres : rdNames bs p = some (pre, z) := by rw [HRES.out, HT.out, Nat.sub_self]; simp [rdTexts]
          have HR2 := Lib.hid hres
          have HO := Lib.hid hO
          clear hres hO
          go_wp2
          go_ret3
          refine ⟨hB, .inl ⟨pre, z, _, HR2.out, rfl, ?_⟩⟩
          have := HO.out
          simpa using this
  · have hc := rdN_code hr
    have hres : rdNames bs p = none := by unfold rdNames; rw [hr]
    have HRES := Lib.hid hres
    have hcn : (c != 0) = true := by simpa using hc
    clear hres hr hmk
    go_wp2
    go_ret3
    exact ⟨hB1, .inr ⟨c, hc, HRES.out, rfl⟩⟩
end Go.Proofs.Ytmghbejbdkoehaa


/- dict.Read. -/
namespace Go.Proofs.Kit
open Go.RowKit
section
variable {α : Type} [DecidableEq α]
/-- What becomes of a table, text by text: the texts stand behind it, or some stood there already. -/
theorem foldL_spec : ∀ (l T : List α) (ns : List Int), T.length + l.length ≤ 1024 → ∃ T' ns', l.foldl stepL (some (T, ns)) = some (T', ns') ∧ ((T' = T ++ l ∧ l.Nodup ∧ ∀ s ∈ l, s ∉ T) ∨ (T'.length < T.length + l.length ∧ ¬ (l.Nodup ∧ ∀ s ∈ l, s ∉ T)))
  | [], T, ns, _ => ⟨T, ns, rfl, .inl ⟨by simp, List.nodup_nil, by simp⟩⟩
  | s :: t, T, ns, h => by
    rw [List.foldl_cons, stepL_some]
    by_cases hm : s ∈ T
    · rw [if_pos hm]
      obtain ⟨T', ns', h1, h2⟩ := foldL_spec t T (ns ++ [(pos T s : Int)]) (by simp at h; omega)
      refine ⟨T', ns', h1, .inr ⟨?_, fun e => e.2 s (by simp) hm⟩⟩
      rcases h2 with ⟨rfl, _⟩ | ⟨h2, _⟩
      · simp
      · simp; omega
    · rw [if_neg hm, if_neg (by simp at h; omega)]
      obtain ⟨T', ns', h1, h2⟩ := foldL_spec t (T ++ [s]) (ns ++ [(T.length : Int)]) (by simp at h ⊢; omega)
      refine ⟨T', ns', h1, ?_⟩
      rcases h2 with ⟨rfl, h3, h4⟩ | ⟨h2, h3⟩
      · refine .inl ⟨by simp, List.nodup_cons.2 ⟨fun e => (h4 s e) (by simp), h3⟩, fun x hx => ?_⟩
        rcases List.mem_cons.1 hx with rfl | hx
        · exact hm
        · exact fun e => h4 x hx (List.mem_append_left _ e)
      · refine .inr ⟨by simp at h2 ⊢; omega, fun ⟨e1, e2⟩ => h3 ⟨(List.nodup_cons.1 e1).2, fun x hx e => ?_⟩⟩
        rcases List.mem_append.1 e with e | e
        · exact e2 x (List.mem_cons_of_mem _ hx) e
        · obtain rfl : x = s := by simpa using e
          exact (List.nodup_cons.1 e1).1 hx
theorem allL_spec (l : List α) (h : l.length ≤ 1024) : ∃ T' ns', allL [] l = some (T', ns') ∧ ((T' = l ∧ l.Nodup) ∨ (T'.length < l.length ∧ ¬ l.Nodup)) := by
  obtain ⟨T', ns', h1, h2⟩ := foldL_spec l [] [] (by simpa using h)
  refine ⟨T', ns', h1, ?_⟩
  rcases h2 with ⟨h2, h3, _⟩ | ⟨h2, h3⟩
  · exact .inl ⟨by simpa using h2, h3⟩
  · exact .inr ⟨by simpa using h2, fun e => h3 ⟨e, by simp⟩⟩
end
/-- A dictionary's names out of rows. -/
def ofL (L : List (List ByteArray)) : Nat → List ByteArray := fun k => L.getD k []
theorem ofL_snoc {j : Nat} (L : List (List ByteArray)) (l : List ByteArray) (hL : L.length = j) (k : Nat) : upd (ofL L) j l k = ofL (L ++ [l]) k := by
  by_cases e : k = j
  · subst e; rw [upd_same]; simp [ofL, ← hL]
  · rw [upd_ne _ _ e]
    unfold ofL
    by_cases h : k < j
    · rw [List.getD_eq_getElem?_getD, List.getD_eq_getElem?_getD, List.getElem?_append_left (by omega)]
    · rw [List.getD_eq_getElem?_getD, List.getD_eq_getElem?_getD, List.getElem?_eq_none (by omega), List.getElem?_eq_none (by simp; omega)]
theorem ofL_none (L : List (List ByteArray)) (k : Nat) (h : L.length ≤ k) : ofL L k = [] := by
  unfold ofL
  rw [List.getD_eq_getElem?_getD, List.getElem?_eq_none h]
  rfl
/-- What lies while a dictionary is read. -/
structure RJ (tD ts ti : TypeId) (hs : ByteArray → Nat) (w : World) (gb : Nat) (L : List (List ByteArray)) (A B : Nat → Value) (S : Nat → List Int) (W : World) : Prop where
  k4 : Blk W w.heap.size (dcs (fun _ => nilV) (fun _ => nilV)) tD
  k7 : Blk W gb (dcs A B) tD
  ow : DOw ts ti w.heap.size W A B (ofL L) S
  good : DGood hs (ofL L) S
  lim : DLim (ofL L) S
  low : Below w.heap.size w W
  hg : w.heap.size < gb
theorem RJ.later {tD ts ti : TypeId} {hs : ByteArray → Nat} {w : World} {gb : Nat} {L : List (List ByteArray)} {A B : Nat → Value} {S : Nat → List Int} {W W' : World} (h : RJ tD ts ti hs w gb L A B S W) (g : Below W.heap.size W W') : RJ tD ts ti hs w gb L A B S W' :=
  ⟨h.k4.later g, h.k7.later g, h.ow.later g, h.good, h.lim, h.low.trans (g.mono h.low.size), h.hg⟩
/-- Another dictionary stands there. -/
theorem RJ.put {tD ts ti : TypeId} {hs : ByteArray → Nat} {w : World} {gb : Nat} {L L' : List (List ByteArray)} {A B A' B' : Nat → Value} {S S' : Nat → List Int} {W : World} (h : RJ tD ts ti hs w gb L A B S W) (ho : DOw ts ti w.heap.size W A' B' (ofL L') S') (hg : DGood hs (ofL L') S') (hl : DLim (ofL L') S') (h1 : ts ≠ tD) (h2 : ti ≠ tD) :
    RJ tD ts ti hs w gb L' A' B' S' (dsets W gb A' B') :=
  ⟨dsets_other h.k4 (by have := h.hg; omega) _ _, dsets_blk h.k7 _ _, ho.dsets h.k7 h1 h2 _ _, hg, hl, dsets_below h.low (by have := h.hg; omega) _ _, h.hg⟩
end Go.Proofs.Kit
namespace Go.Proofs.Ytmghbejbdkoehaa
open Go.RowKit Go.Proofs.Kit Go.Shelf

/-- The names, kind by kind, that stand at a place of bytes. -/
def rdKinds (bs : List Int) : Nat → Nat → Nat → Option (List (List ByteArray) × Nat)
  | 0, _, p => some ([], p)
  | m + 1, j, p => match rdNames bs p with
    | none => none
    | some (l, q) => if (l.all fun s => mayB (j : Int) s) = true ∧ l.Nodup then (rdKinds bs m (j + 1) q).map fun r => (l :: r.1, r.2) else none
/-- The dictionary that stands there. -/
def rdDict (bs : List Int) (p : Nat) : Option (List (List ByteArray) × Nat) := rdKinds bs 5 0 p
theorem rdKinds_none {bs : List Int} {m j p : Nat} (h : rdNames bs p = none) : rdKinds bs (m + 1) j p = none := by simp [rdKinds, h]
theorem rdKinds_no {bs : List Int} {m j p q : Nat} {l : List ByteArray} (h : rdNames bs p = some (l, q)) (hn : ¬ ((∀ s ∈ l, mayB (j : Int) s = true) ∧ l.Nodup)) : rdKinds bs (m + 1) j p = none := by
  simp only [rdKinds, h]
  rw [if_neg]
  rintro ⟨h1, h2⟩
  exact hn ⟨List.all_eq_true.1 h1, h2⟩
theorem rdKinds_ok {bs : List Int} {m j p q : Nat} {l : List ByteArray} (h : rdNames bs p = some (l, q)) (h1 : ∀ s ∈ l, mayB (j : Int) s = true) (h2 : l.Nodup) : rdKinds bs (m + 1) j p = (rdKinds bs m (j + 1) q).map fun r => (l :: r.1, r.2) := by
  simp only [rdKinds, h]
  rw [if_pos ⟨List.all_eq_true.2 h1, h2⟩]
/-- What is known of texts that were read. -/
theorem rdTexts_some {bs : List Int} (hb : Byt bs) : ∀ (m p : Nat) (l : List ByteArray) (q : Nat), p ≤ bs.length → rdTexts bs m p = some (l, q) → l.length = m ∧ q ≤ bs.length ∧ p ≤ q ∧ ∀ s ∈ l, s.size ≤ 4000
  | 0, p, l, q, hp, h => by simp [rdTexts] at h; obtain ⟨rfl, rfl⟩ := h; exact ⟨rfl, hp, Nat.le_refl _, by simp⟩
  | m + 1, p, l, q, hp, h => by
    cases e : rdCounted 4000 bs p with
    | error c => rw [rdTexts_succ_err e] at h; cases h
    | ok y =>
      obtain ⟨x, z⟩ := y
      have hbk := rdCounted_back hb e
      rw [rdTexts_succ_ok e, Option.map_eq_some_iff] at h
      obtain ⟨⟨l', q'⟩, h1, h2⟩ := h
      injection h2 with h2 h3
      subst h2 h3
      obtain ⟨g1, g2, g3, g4⟩ := rdTexts_some hb m z l' q' hbk.2.2.1 h1
      refine ⟨by simp [g1], g2, by omega, fun s hs => ?_⟩
      rcases List.mem_cons.1 hs with rfl | hs
      · have : (ofB x).size = x.length := by simp [ofB, ByteArray.size]
        omega
      · exact g4 s hs
theorem rdNames_some {bs : List Int} (hb : Byt bs) {p q : Nat} {l : List ByteArray} (h : rdNames bs p = some (l, q)) : l.length ≤ 128 ∧ q ≤ bs.length ∧ p < q ∧ ∀ s ∈ l, s.size ≤ 4000 := by
  unfold rdNames at h
  cases e : rdN bs p with
  | error c => rw [e] at h; cases h
  | ok y =>
    obtain ⟨x, z⟩ := y
    rw [e] at h
    simp only at h
    obtain ⟨n, rfl, _, h1, h2, _⟩ := rdN_back hb e
    split at h
    · cases h
    · obtain ⟨g1, g2, g3, g4⟩ := rdTexts_some hb _ _ _ _ h2 h
      exact ⟨by simp at g1; omega, g2, by omega, g4⟩
end Go.Proofs.Ytmghbejbdkoehaa

