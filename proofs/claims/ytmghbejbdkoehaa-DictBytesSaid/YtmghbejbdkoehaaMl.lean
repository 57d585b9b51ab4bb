import Derived.Test.YtmghbejbdkoehaaJ11
import Derived.Lib.AppendZeros
/- table.All of what may not be; table.Put. -/
namespace Go.Proofs.Kit
open Go.RowKit
/-- What Put comes to. -/
inductive PutP (ts ti : TypeId) (w : World) (T : List ByteArray) (S : List Int) (s : ByteArray) : Ending → World → Prop
  | bad (w' : World) (h : ¬ Good hsh T S) (hb : Below w.heap.size w w') : PutP ts ti w T S s (.returned (.tuple #[.agg #[.slice none 0 0, .slice none 0 0], .int .i64 0, .int .i64 150])) w'
  | full (w' : World) (h : Good hsh T S) (hs : s ∉ T) (hT : T.length = 1024) (hb : Below w.heap.size w w') : PutP ts ti w T S s (.returned (.tuple #[.agg #[.slice none 0 0, .slice none 0 0], .int .i64 0, .int .i64 6])) w'
  | ok (w' : World) (T' : List ByteArray) (k : Nat) (vT' vS' vN' : Value) (h : Good hsh T S) (hk : (s ∈ T ∧ T' = T ∧ k = pos T s) ∨ (s ∉ T ∧ T.length ≠ 1024 ∧ T' = T ++ [s] ∧ k = T.length)) (a : AllOk ts ti w T' [(k : Int)] (max S.length 4096) vT' vS' vN' w') :
      PutP ts ti w T S s (.returned (.tuple #[.agg #[vT', vS'], .int .i64 (k : Int), .int .i64 0])) w'
theorem allL_one (T : List ByteArray) (s : ByteArray) : allL T [s] = stepL (some (T, [])) s := rfl
end Go.Proofs.Kit
namespace Go.Proofs.Ytmghbejbdkoehaa
open Go.RowKit Go.Proofs.Kit Go.Shelf

set_option maxRecDepth 100000 in
set_option maxHeartbeats 1000000 in
theorem all_bad (vT vS vl : Value) (hvl : ∃ o n c, vl = .slice o n c) (T : List ByteArray) (S : List Int) (w : World) (hT : Sl w vT (T.map Value.string)) (hS : Sl w vS (S.map (Value.int .i64))) (hm : S.length ≤ 1000000000) (hTl : T.length ≤ 1000000000)
    (hsz : ∀ s ∈ T, s.size ≤ 9223372036854775807) (hg : ¬ Kit.Good hsh T S) :
    Calls Try.prog 73 #[.agg #[vT, vS], vl] w fun en w' => en = .returned (.tuple #[.agg #[.slice none 0 0, .slice none 0 0], .slice none 0 0, .int .i64 150]) ∧ Below w.heap.size w w' := by
  obtain ⟨oL, nL, cL, rfl⟩ := hvl
  have HT := Lib.hid hT
  have HS := Lib.hid hS
  have HZ := Lib.hid hsz
  have HG := Lib.hid hg
  obtain ⟨oT, cT, rfl, _, _, _⟩ := hT.mshape
  obtain ⟨oS, cS, rfl, _, _, _⟩ := hS.mshape
  clear hT hS hsz hg
  go_enter Try.func73, Try.ntmps73
  go_wp2_with fail
  obtain ⟨W2, hW2⟩ : ∃ W2, W2 = (w.alloc (.cells #[.slice oT T.length cT, .slice oS S.length cS] 25)).alloc (.cells #[.slice none 0 0, .slice none 0 0] 25) := ⟨_, rfl⟩
  have g2 : Gr w W2 := by rw [hW2]; exact (Gr.alloc _ _).trans (Gr.alloc _ _)
  have k2 : Blk W2 (w.heap.size + 1) #[.slice none 0 0, .slice none 0 0] 25 := by rw [hW2]; have := Blk.new (w.alloc (.cells #[.slice oT T.length cT, .slice oS S.length cS] 25)) #[.slice none 0 0, .slice none 0 0] 25; simpa using this
  rw [← hW2]
  clear hW2
  refine (check_any _ _ T S W2 (HT.out.gr g2) (HS.out.gr g2) hm hTl HZ.out 150 (.inr ⟨HG.out, rfl⟩)).mono ?_
  rintro e W3 ⟨rfl, g3⟩
  have k3 := k2.gr g3
  have g13 := g2.trans g3
  obtain ⟨r0, r1, s0, s1, m0⟩ : W3.cell? ⟨w.heap.size + 1, 0, none⟩ = some (.slice none 0 0) ∧ W3.cell? ⟨w.heap.size + 1, 1, none⟩ = some (.slice none 0 0) ∧ W3.frozen? ⟨w.heap.size + 1, 0, none⟩ = false ∧ W3.frozen? ⟨w.heap.size + 1, 1, none⟩ = false ∧ w.heap.size + 1 < W3.heap.size := ⟨k3.cell 0, k3.cell 1, k3.frozen 0, k3.frozen 1, k3.lt⟩
  have K3 := Lib.hid k3
  clear k2 k3
  go_wp2
  have kR := (K3.out.set 0 (.slice none 0 0)).set 1 (.slice none 0 0)
  simp only [List.setIfInBounds_toArray, List.set_cons_zero, List.set_cons_succ] at kR
  have C0 := kR.cell 0
  have C1 := kR.cell 1
  simp only [List.getElem?_toArray, List.getElem?_cons_zero, List.getElem?_cons_succ] at C0 C1
  exact bodyPost_ret (v := .tuple #[.agg #[.slice none 0 0, .slice none 0 0], .slice none 0 0, .int .i64 150]) (by simp [results, Try.results73, go_sem, C0, C1]) rfl ⟨rfl, (g13.below.setCell (by simp) _).setCell (by simp) _⟩

end Go.Proofs.Ytmghbejbdkoehaa


/- wakes; small, own, cut, same. -/
namespace Go.Proofs.Kit
open Go.RowKit
abbrev sA : ByteArray := ⟨#[97]⟩
abbrev sB : ByteArray := ⟨#[98]⟩
theorem wake_all : allL ([] : List ByteArray) [sB, sA, sB] = some ([sB, sA], [0, 1, 0]) := by decide +kernel
theorem wake_pos : pos [sB, sA] sA = 1 := by decide +kernel
theorem wake_mem : sA ∈ [sB, sA] := by simp
theorem hash_none : ((hsh ⟨#[]⟩ : Nat) : Int) = 14695981039346656037 := by decide +kernel
end Go.Proofs.Kit
namespace Go.Proofs.Ytmghbejbdkoehaa
open Go.RowKit Go.Proofs.Kit Go.Shelf

theorem hash_empty (w : World) : Calls Try.prog 95 #[.string ⟨#[]⟩] w fun e w' => e = .returned (.int .u64 14695981039346656037) ∧ w' = w := by
  rw [← hash_none]
  exact hash_any ⟨#[]⟩ (by decide) w

theorem fld1 (x : Value) (o : Option Addr) (n c : Nat) (W : World) : (Instr.field 25 (.agg #[x, .slice o n c]) 1).run Try.prog W = .ok (.slice o n c) W := by
  simp [Instr.field, go_sem, asAgg]
end Go.Proofs.Ytmghbejbdkoehaa


/- small, own, cut, same. -/
namespace Go.Proofs.Ytmghbejbdkoehaa
open Go.RowKit Go.Proofs.Kit Go.Shelf

/-- A text's first 60 bytes. -/
def cutS (s : ByteArray) : ByteArray := s.extract 0 (min s.size 60)
theorem cutS_small {s : ByteArray} (h : s.size ≤ 60) : cutS s = s := by
  unfold cutS
  rw [show min s.size 60 = s.size by omega]
  exact ByteArray.extract_zero_size
theorem cutS_big {s : ByteArray} (h : ¬ s.size ≤ 60) : cutS s = s.extract 0 60 := by
  unfold cutS
  rw [show min s.size 60 = 60 by omega]
theorem cutS_size (s : ByteArray) : (cutS s).size ≤ 60 := by unfold cutS; rw [ByteArray.size_extract]; omega
end Go.Proofs.Ytmghbejbdkoehaa


/- TableKeeps: the law's walk. -/
namespace Go.Proofs.Kit
open Go.RowKit
section
variable {α : Type} [DecidableEq α] {T : List α}
theorem pos_new {s : α} (h : s ∉ T) : pos (T ++ [s]) s = T.length := by
  unfold pos
  rw [List.idxOf_append, if_neg h]
  simp
theorem get_of_pos {s : α} {k : Nat} (h : s ∈ T) (hp : pos T s = k) : ∃ hk : k < T.length, T[k] = s := by subst hp; exact ⟨pos_lt h, pos_get h⟩
theorem pos_at (hT : T.Nodup) {i : Nat} (hi : i < T.length) : pos T T[i] = i := by
  have h := pos_lt (List.getElem_mem hi)
  have e := pos_get (List.getElem_mem hi)
  exact (List.getElem_inj hT).1 e
end
/-- A table at its record. -/
structure TB (tt : TypeId) (b : Nat) (vT vS : Value) (T : List ByteArray) (S : List Int) (W : World) : Prop where
  kb : Blk W b #[vT, vS] tt
  sT : Sl W vT (T.map Value.string)
  sS : Sl W vS (S.map (Value.int .i64))
section
variable {tt : TypeId} {b : Nat} {vT vS : Value} {T : List ByteArray} {S : List Int} {W W' : World}
theorem TB.later (h : TB tt b vT vS T S W) (g : Below W.heap.size W W') : TB tt b vT vS T S W' := ⟨h.kb.later g, h.sT.later g, h.sS.later g⟩
theorem TB.cells (h : TB tt b vT vS T S W) : W.cell? ⟨b, 0, none⟩ = some vT ∧ W.cell? ⟨b, 1, none⟩ = some vS := ⟨h.kb.cell 0, h.kb.cell 1⟩
theorem TB.new {w : World} (sT : Sl w vT (T.map Value.string)) (sS : Sl w vS (S.map (Value.int .i64))) : TB tt w.heap.size vT vS T S (w.alloc (.cells #[vT, vS] tt)) := ⟨Blk.new _ _ _, sT.alloc _, sS.alloc _⟩
end
/-- What Put makes of the texts, once it may. -/
def PutT (T : List ByteArray) (s : ByteArray) (T' : List ByteArray) (k : Nat) : Prop := (s ∈ T ∧ T' = T ∧ k = pos T s) ∨ (s ∉ T ∧ T.length ≠ 1024 ∧ T' = T ++ [s] ∧ k = T.length)
theorem PutT.mem {T T' : List ByteArray} {s : ByteArray} {k : Nat} (h : PutT T s T' k) : s ∈ T' ∧ pos T' s = k := by
  rcases h with ⟨h1, rfl, rfl⟩ | ⟨h1, _, rfl, rfl⟩
  · exact ⟨h1, rfl⟩
  · exact ⟨by simp, pos_new h1⟩
theorem PutT.old {T T' : List ByteArray} {s : ByteArray} {k : Nat} (h : PutT T s T' k) {i : Nat} (hi : i < T.length) : ∃ hi' : i < T'.length, T'[i] = T[i] := by
  rcases h with ⟨h1, rfl, rfl⟩ | ⟨h1, _, rfl, rfl⟩
  · exact ⟨hi, rfl⟩
  · exact ⟨by simp; omega, by rw [List.getElem_append_left hi]⟩
theorem PutT.len {T T' : List ByteArray} {s : ByteArray} {k : Nat} (h : PutT T s T' k) : T'.length ≤ T.length + 1 := by
  rcases h with ⟨h1, rfl, rfl⟩ | ⟨h1, _, rfl, rfl⟩ <;> simp
theorem PutT.sizes {T T' : List ByteArray} {s : ByteArray} {k : Nat} (h : PutT T s T' k) (hz : ∀ x ∈ T, x.size ≤ 9223372036854775807) (hs : s.size ≤ 9223372036854775807) : ∀ x ∈ T', x.size ≤ 9223372036854775807 := by
  rcases h with ⟨h1, rfl, rfl⟩ | ⟨h1, _, rfl, rfl⟩
  · exact hz
  · intro x hx
    rcases List.mem_append.1 hx with hx | hx
    · exact hz x hx
    · rw [List.mem_singleton] at hx; rw [hx]; exact hs
end Go.Proofs.Kit
namespace Go.Proofs.Ytmghbejbdkoehaa
open Go.RowKit Go.Proofs.Kit Go.Shelf

end Go.Proofs.Ytmghbejbdkoehaa


/- slices.Grow of nil, and slices.Concat of two, for integers; what is put by parts. -/
namespace Go.Proofs.Kit
section
variable {α : Type} [DecidableEq α]
theorem foldL_acc (b : List α) : ∀ (T : List α) (m : List Int), b.foldl stepL (some (T, m)) = (b.foldl stepL (some (T, []))).map (fun x => (x.1, m ++ x.2)) := by
  induction b with
  | nil => intro T m; simp
  | cons s b ih =>
    intro T m
    rw [List.foldl_cons, List.foldl_cons, stepL_some, stepL_some]
    split
    · rw [ih, ih T ([] ++ _)]
      simp [Option.map_map, Function.comp_def]
    · split
      · rw [foldL_none]; rfl
      · rw [ih, ih (T ++ [s]) ([] ++ _)]
        simp [Option.map_map, Function.comp_def]
/-- All by parts. -/
theorem allL_append {T T1 : List α} {n1 : List Int} (a b : List α) (h : allL T a = some (T1, n1)) : allL T (a ++ b) = (allL T1 b).map (fun x => (x.1, n1 ++ x.2)) := by
  unfold allL at *
  rw [List.foldl_append, h, foldL_acc]
theorem allL_fits (l : List α) : ∀ (T : List α), T.length + l.length ≤ 1024 → ∃ T' ns, allL T l = some (T', ns) ∧ T'.length ≤ T.length + l.length := by
  induction l with
  | nil => intro T _; exact ⟨T, [], rfl, by simp⟩
  | cons s l ih =>
    intro T h
    simp only [List.length_cons] at h
    have e : allL T (s :: l) = l.foldl stepL (stepL (some (T, [])) s) := rfl
    rw [e, stepL_some]
    split
    · obtain ⟨T', ns, h1, h2⟩ := ih T (by omega)
      refine ⟨T', _, by rw [foldL_acc]; show Option.map _ (allL T l) = _; rw [h1]; rfl, by simp; omega⟩
    · rw [if_neg (by omega)]
      obtain ⟨T', ns, h1, h2⟩ := ih (T ++ [s]) (by simp; omega)
      refine ⟨T', _, by rw [foldL_acc]; show Option.map _ (allL (T ++ [s]) l) = _; rw [h1]; rfl, by simp at h2 ⊢; omega⟩
end
end Go.Proofs.Kit
namespace Go.Proofs.Ytmghbejbdkoehaa
open Go.RowKit Go.Proofs.Kit Go.Shelf

def pre2 (a b : Nat) : Nat → Nat
  | 0 => 0
  | 1 => a
  | _ => a + b
def acc2 (a b : List Int) : Nat → List Int
  | 0 => []
  | 1 => a
  | _ => a ++ b
end Go.Proofs.Ytmghbejbdkoehaa


/- TableParts: the law's walk. -/
namespace Go.Proofs.Kit
/-- The first texts, cut. -/
def cuts (m : Nat) (tx : List ByteArray) (k : Nat) : List ByteArray := (tx.take (min k m)).map cutS'
where cutS' (s : ByteArray) : ByteArray := s.extract 0 (min s.size 60)
theorem cuts_len (m : Nat) (tx : List ByteArray) (k : Nat) : (cuts m tx k).length ≤ m := by unfold cuts; simp; omega
theorem cuts_size (m : Nat) (tx : List ByteArray) (k : Nat) : ∀ s ∈ cuts m tx k, s.size ≤ 60 := by
  intro s hs
  unfold cuts at hs
  obtain ⟨t, _, rfl⟩ := List.mem_map.1 hs
  unfold cuts.cutS'
  rw [ByteArray.size_extract]
  omega
theorem cuts_succ {m : Nat} {tx : List ByteArray} {k : Nat} (hk : k < tx.length) (hm : k < m) : cuts m tx (k + 1) = cuts m tx k ++ [cuts.cutS' tx[k]] := by
  unfold cuts
  rw [show min (k + 1) m = k + 1 by omega, show min k m = k by omega, List.take_succ_eq_append_getElem hk, List.map_append]
  rfl
theorem cuts_more {m : Nat} {tx : List ByteArray} {k : Nat} (hm : ¬ k < m) : cuts m tx (k + 1) = cuts m tx k := by
  unfold cuts
  rw [show min (k + 1) m = m by omega, show min k m = m by omega]
theorem allL_mem (l : List ByteArray) : ∀ (T T' : List ByteArray) (ns : List Int), allL T l = some (T', ns) → ∀ s ∈ T', s ∈ T ∨ s ∈ l := by
  have key : ∀ (l T : List ByteArray) (m : List Int) (T' : List ByteArray) (ns : List Int), l.foldl stepL (some (T, m)) = some (T', ns) → ∀ s ∈ T', s ∈ T ∨ s ∈ l := by
    intro l
    induction l with
    | nil => intro T m T' ns h s hs; simp at h; rw [h.1]; exact .inl hs
    | cons x l ih =>
      intro T m T' ns h s hs
      rw [List.foldl_cons, stepL_some] at h
      split at h
      · rcases ih _ _ _ _ h s hs with h | h
        · exact .inl h
        · exact .inr (by simp [h])
      · split at h
        · rw [foldL_none] at h; cases h
        · rcases ih _ _ _ _ h s hs with h | h
          · rcases List.mem_append.1 h with h | h
            · exact .inl h
            · exact .inr (by rw [List.mem_singleton] at h; simp [h])
          · exact .inr (by simp [h])
  intro T T' ns h
  exact key l T [] T' ns h
section
open Go.RowKit
variable {tt ts ti : TypeId} {w w' : World} {T' : List ByteArray} {ns : List Int} {m b : Nat} {vT vS vN : Value}
theorem AllOk.tb_new (h : AllOk ts ti w T' ns m vT vS vN w') : ∃ S', TB tt w'.heap.size vT vS T' S' (w'.alloc (.cells #[vT, vS] tt)) ∧ Sl (w'.alloc (.cells #[vT, vS] tt)) vN (ns.map (Value.int .i64)) ∧ Good hsh T' S' ∧ S'.length ≤ m ∧ Below w'.heap.size w' (w'.alloc (.cells #[vT, vS] tt)) := by
  obtain ⟨S', p1, p2, p3, p4⟩ := h.ex
  exact ⟨S', TB.new p1.sl p2.sl, h.oN.sl.alloc _, p3, p4, (Gr.alloc _ _).below⟩
theorem AllOk.tb_set (h : AllOk ts ti w T' ns m vT vS vN w') (kz : Blk w' b #[.slice none 0 0, .slice none 0 0] tt) (h1 : ts ≠ tt) (h2 : ti ≠ tt) : ∃ S', TB tt b vT vS T' S' ((w'.setCell ⟨b, 0, none⟩ vT).setCell ⟨b, 1, none⟩ vS) ∧ Sl ((w'.setCell ⟨b, 0, none⟩ vT).setCell ⟨b, 1, none⟩ vS) vN (ns.map (Value.int .i64)) ∧ Good hsh T' S' ∧ S'.length ≤ m ∧ ∀ B, B ≤ b → Below B w' ((w'.setCell ⟨b, 0, none⟩ vT).setCell ⟨b, 1, none⟩ vS) := by
  obtain ⟨S', p1, p2, p3, p4⟩ := h.ex
  have far : ∀ {t : TypeId} {x : Value} {l : List Value}, t ≠ tt → Ow t w.heap.size w' x l → Ow t w.heap.size ((w'.setCell ⟨b, 0, none⟩ vT).setCell ⟨b, 1, none⟩ vS) x l := fun ht ho =>
    ho.same fun g hg => (Below.heap_setCell _ _ _ _ (by rintro rfl; exact ho.ne_blk kz ht hg)).trans (Below.heap_setCell _ _ _ _ (by rintro rfl; exact ho.ne_blk kz ht hg))
  refine ⟨S', ⟨?_, (far h1 p1).sl, (far h2 p2).sl⟩, (far h2 h.oN).sl, p3, p4, fun B hB => ((Below.refl _ _).setCell (by simpa using hB) _).setCell (by simpa using hB) _⟩
  have := (kz.set 0 vT).set 1 vS
  simpa using this
end
end Go.Proofs.Kit
namespace Go.Proofs.Ytmghbejbdkoehaa
open Go.RowKit Go.Proofs.Kit Go.Shelf

theorem all_fit (vT vS vl : Value) (T l : List ByteArray) (S : List Int) (w : World) (hT : Sl w vT (T.map Value.string)) (hS : Sl w vS (S.map (Value.int .i64))) (hl : Sl w vl (l.map Value.string)) (hm : S.length ≤ 10000000) (hll : l.length ≤ 1000000)
    (hsz : ∀ s ∈ T, s.size ≤ 9223372036854775807) (hlz : ∀ s ∈ l, s.size ≤ 9223372036854775807) (hg : Kit.Good hsh T S) (T' : List ByteArray) (ns : List Int) (h : allL T l = some (T', ns)) :
    Calls Try.prog 73 #[.agg #[vT, vS], vl] w fun en w' => ∃ o1 x1 o2 x2 o3 x3 n2, en = .returned (.tuple #[.agg #[.slice o1 T'.length x1, .slice o2 n2 x2], .slice o3 l.length x3, .int .i64 0]) ∧ AllOk 9 3 w T' ns (max S.length 4096) (.slice o1 T'.length x1) (.slice o2 n2 x2) (.slice o3 l.length x3) w' := by
  refine (all_any vT vS vl T l S w hT hS hl hm hll hsz hlz hg).mono ?_
  rintro e w' (⟨_, h2, _⟩ | ⟨_, T2, n2, vT', vS', vN', h2, ha⟩)
  · rw [h] at h2; cases h2
  · rw [h] at h2
    injection h2 with h2
    injection h2 with h3 h4
    subst h3 h4
    obtain ⟨S', p1, p2, _⟩ := ha.ex
    obtain ⟨o1, x1, rfl⟩ := p1.shape
    obtain ⟨o2, x2, rfl⟩ := p2.shape
    obtain ⟨o3, x3, rfl⟩ := ha.oN.shape
    have e3 : ns.length = l.length := allL_len h
    simp only [List.length_map, e3] at ha ⊢
    exact ⟨o1, x1, o2, x2, o3, x3, _, rfl, ha⟩
theorem cutS_is (s : ByteArray) : cutS s = cuts.cutS' s := rfl
end Go.Proofs.Ytmghbejbdkoehaa

