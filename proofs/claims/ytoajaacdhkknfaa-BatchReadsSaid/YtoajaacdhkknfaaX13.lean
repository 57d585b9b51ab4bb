/- Text. -/
import Derived.Test.YtoajaacdhkknfaaX12
import Derived.Test.YtoajaacdhkknfaaShB
namespace Go.Proofs.Kit
open Go.RowKit
theorem ownsRow_later {w w' : World} {B : Nat} {e : TypeId} {v : Value} {n : Nat} {xs : List Value} (h : w.ownsRow B e 1 v n xs) (hb : Below w.heap.size w w') : w'.ownsRow B e 1 v n xs := by
  have hl := h.lt
  refine ⟨h.1, ?_⟩
  rcases h.2 with h | ⟨g, cap, cur, rfl, hg, hh, h⟩
  · exact .inl h
  · exact .inr ⟨g, cap, cur, rfl, hg, (hb.block g (hl g rfl).2).trans hh, h⟩
theorem builder_later {T e : TypeId} {B b : Nat} {p : Value} {bs : List Value} {w w' : World} (h : Lib.BuilderAt T e B b p bs w) (hb : Below w.heap.size w w') : Lib.BuilderAt T e B b p bs w' := by
  have hlt := h.lt
  obtain ⟨h1, v, h2, h3, h4⟩ := h
  exact ⟨h1, v, (hb.block b hlt).trans h2, ownsRow_later h3 hb, h4⟩
theorem isBuilder_later {T e : TypeId} {B b : Nat} {bs : List Value} {w w' : World} (h : Lib.IsBuilder T e B b bs w) (hb : Below w.heap.size w w') : Lib.IsBuilder T e B b bs w' := h.imp (fun h => builder_later h hb) (fun h => builder_later h hb)
theorem cells_append (a b : List UInt8) : Lib.byteCells (a ++ b) = Lib.byteCells a ++ Lib.byteCells b := by simp [Lib.byteCells]
theorem cells_str (s : ByteArray) : Lib.strCells s = Lib.byteCells (bl s) := by simp [Lib.strCells, Lib.byteCells]
theorem cells_len (a : List UInt8) : (Lib.byteCells a).length = a.length := by simp [Lib.byteCells]
theorem line_len {c : Chg} (h : rightB c = true) : (lineL c).length ≤ 200 := by
  obtain ⟨s1, s2, s3, s4⟩ := sizes_of h
  have hw := word_len c.kind.toNat
  have e1 := bl_len c.key
  have e2 := bl_len c.name
  have e3 := bl_len c.val
  have e4 := bl_len c.to
  unfold lineL
  simp only [List.length_append, List.length_cons]
  have i1 : (if 3 ≤ c.kind then 32 :: bl c.name else []).length ≤ 41 := by split <;> simp only [List.length_cons, List.length_nil] <;> omega
  have i2 : (if c.kind = 5 then 32 :: 34 :: bl c.val ++ [34] else []).length ≤ 43 := by split <;> simp only [List.length_append, List.length_cons, List.length_nil] <;> omega
  have i3 : (if 7 ≤ c.kind then 32 :: bl c.to else []).length ≤ 41 := by split <;> simp only [List.length_cons, List.length_nil] <;> omega
  omega
theorem text_len : ∀ {l : List Chg}, (∀ c ∈ l, rightB c = true) → (textL l).length ≤ 201 * l.length
  | [], _ => by simp [textL]
  | c :: r, h => by
    have h1 := line_len (h c (by simp))
    have h2 := text_len (l := r) (fun d hd => h d (by simp [hd]))
    simp only [textL, List.length_append, List.length_cons]
    omega
def textO (l : List Chg) : ByteArray := if batchE l = 0 then lb (textL l) else noB
end Go.Proofs.Kit
namespace Go.Proofs.Ytoajaacdhkknfaa
open Go.RowKit Go.Proofs.Kit Go.Shelf
set_option maxRecDepth 100000 in
set_option maxHeartbeats 4000000 in
theorem text_any (v : Value) (l : List Chg) (w : World) (hs : SegE chgE w v l) (hf : ∀ x ∈ l, Fits x) :
    Calls Try.prog 19 #[v] w fun e w' => e = .returned (.tuple #[.string (textO l), .int .i64 (batchE l)]) ∧ Below w.heap.size w w' := by
  obtain ⟨o, c, rfl, hc, hm, _⟩ := hs.shape
  have HS := Lib.hid hs
  have HC := Lib.hid (fun W (g : Below w.heap.size w W) => batch_any _ l W (hs.later g) hf)
  have hlen : l.length ≤ 9223372036854775807 := hs.len
  obtain ⟨n, hn⟩ : ∃ n, n = l.length := ⟨_, rfl⟩
  rw [← hn] at HS HC hc hlen ⊢
  have HL := Lib.hid hn
  by_cases hE : batchE l = 0
  · obtain ⟨h64, hR⟩ := batchE_zero hE
    have hn64 : n ≤ 64 := by omega
    have HR := Lib.hid hR
    have HT := Lib.hid (show textO l = lb (textL l) by rw [textO, if_pos hE])
    rw [hE] at HC ⊢
    obtain ⟨t, ht⟩ : ∃ t, t = textO l := ⟨_, rfl⟩
    rw [← ht] at HT ⊢
    clear hn hs hf hE ht h64 hR
    go_enter Try.func19, Try.ntmps19
    go_wp2_with fail
    refine (HC.out _ (Below.refl _ _)).mono ?_
    rintro e w2 ⟨rfl, b2⟩
    have HB2 := Lib.hid b2
    clear b2
    go_wp2
    have hib : Lib.IsBuilder 62 5 w2.heap.size w2.heap.size (Lib.byteCells (textL (l.take 0))) (w2.alloc (.cells #[.pointer none, .slice none 0 0] 62)) := Lib.fresh_isBuilder _ _ _
    have HIB := Lib.hid hib
    clear hib
    have hgA := (Gr.alloc w2 (.cells #[.pointer none, .slice none 0 0] 62)).below
    have HGA := Lib.hid hgA
    clear hgA
    obtain ⟨W, hW⟩ : ∃ W, W = w2.alloc (.cells #[.pointer none, .slice none 0 0] 62) := ⟨_, rfl⟩
    rw [← hW] at HIB HGA ⊢
    clear hW
    go_loopw [19] (fun s19 wr => ∃ k : Nat, k ≤ n ∧ s19 = .int .i64 (k : Int) ∧ Hid (Lib.IsBuilder 62 5 w2.heap.size w2.heap.size (Lib.byteCells (textL (l.take k))) wr) ∧ Hid (Below w2.heap.size w2 wr)) (fun s19 _ => n - (intOf s19).toNat)
    case atStart => exact ⟨0, Nat.zero_le _, rfl, HIB, HGA⟩
    case round =>
      obtain ⟨k, hk, rfl, HI, HB⟩ := hrel
      by_cases hlt : k < n
      · have hkl : k < l.length := by have := HL.out; omega
        obtain ⟨b, f, rfl, _, hcn, hcm, hbl, hcells⟩ := (HS.out.later (below_later HB2.out HB.out)).has hkl
        obtain ⟨d0, d1, d2, d3, d4⟩ := ch_cells hcells k hkl
        obtain ⟨x, hx⟩ : ∃ x, x = l[k] := ⟨_, rfl⟩
        have hrx : rightB x = true := by rw [hx]; exact HR.out _ (List.getElem_mem hkl)
        rw [← hx] at d0 d1 d2 d3 d4
        have HTK := Lib.hid (show l.take (k + 1) = l.take k ++ [x] by rw [hx]; exact List.take_succ_eq_append_getElem hkl)
        have HLN := Lib.hid (show (textL (l.take k)).length ≤ 201 * 64 from Nat.le_trans (text_len (fun c hc => HR.out c (List.mem_of_mem_take hc))) (Nat.mul_le_mul_left _ (by have := List.length_take_le k l; omega)))
        have HLX := Lib.hid (line_len hrx)
        have HO := Lib.hid (fun W => lineOf_right x hrx W)
        have HQ := Lib.hid (show bl (lineB x) = lineL x from rfl)
        obtain ⟨q, hq⟩ : ∃ q, q = lineB x := ⟨_, rfl⟩
        rw [← hq] at HO HQ
        obtain ⟨y, hy⟩ : ∃ y, y = lineL x := ⟨_, rfl⟩
        rw [← hy] at HQ HLX
        have HY := Lib.hid hy
        clear hx hcells hrx hq hy hkl
        obtain ⟨x0, x1, x2, x3, x4⟩ := x
        simp only at d0 d1 d2 d3 d4
        go_wp2_with fail
        refine (HO.out _).mono ?_
        rintro e w3 ⟨rfl, b3⟩
        have gA := (Gr.alloc wr (.cells #[.int .i64 x0, .string x1, .string x2, .string x3, .string x4] 27)).below
        have HI3 := Lib.hid (isBuilder_later (isBuilder_later HI.out gA) b3)
        have HB3 := Lib.hid (below_later (below_later HB.out gA) b3)
        clear gA b3 d0 d1 d2 d3 d4 HI HB
        have hz : w2.heap.size ≤ w3.heap.size := HB3.out.size
        go_wp2_with fail
        refine (Try.Builder_WriteString _ _ _ q _ HI3.out (by rw [cells_len]; have h1 := HLN.out; have h2 := HLX.out; rw [← HQ.out, bl_len] at h2; omega) hz).mono ?_
        rintro e w4 ⟨rfl, hI4, b4⟩
        have HI4 := Lib.hid (show Lib.IsBuilder 62 5 w2.heap.size w2.heap.size (Lib.byteCells (textL (l.take k) ++ y)) w4 from .inr (by rw [cells_append, ← HQ.out, ← cells_str]; exact hI4))
        have HB4 := Lib.hid (HB3.out.trans b4)
        clear hI4 b4 HI3 HB3
        have hz4 : w2.heap.size ≤ w4.heap.size := HB4.out.size
        go_wp2_with fail
        refine (Try.Builder_WriteString _ _ _ ⟨#[10]⟩ _ HI4.out (by rw [cells_len, List.length_append]; have h1 := HLN.out; have h2 := HLX.out; show _ + 1 ≤ _; omega) hz4).mono ?_
        rintro e w5 ⟨rfl, hI5, b5⟩
        have HI5 := Lib.hid (show Lib.IsBuilder 62 5 w2.heap.size w2.heap.size (Lib.byteCells (textL (l.take (k + 1)))) w5 from .inr (by
          rw [HTK.out, textL_append, textL, textL, ← HY.out, show textL (l.take k) ++ (y ++ 10 :: []) = (textL (l.take k) ++ y) ++ [10] by simp, cells_append]
          exact hI5))
        have HB5 := Lib.hid (HB4.out.trans b5)
        clear hI5 b5 HI4 HB4
        go_wp2
        go_roundw
        case rel => exact ⟨k + 1, by omega, by go_num, HI5, HB5⟩
        case measure => simp [intOf]; omega
      · have HT2 := Lib.hid (show l.take k = l from List.take_of_length_le (by have := HL.out; omega))
        have HI6 := Lib.hid (show Lib.IsBuilder 62 5 w2.heap.size w2.heap.size (Lib.byteCells (textL l)) wr by have := HI.out; rwa [HT2.out] at this)
        have hz : w2.heap.size ≤ wr.heap.size := HB.out.size
        go_wp2_with fail
        refine (Try.Builder_String_any _ _ (textL l) _ HI6.out hz).mono ?_
        rintro e w6 ⟨rfl, b6⟩
        rw [show (⟨(textL l).toArray⟩ : ByteArray) = t from HT.out.symm]
        go_wp2
        go_ret2
        exact ⟨rfl, HB2.out.trans ((HB.out.trans b6).mono HB2.out.size)⟩
  · have HT := Lib.hid (show textO l = noB by rw [textO, if_neg hE])
    obtain ⟨t, ht⟩ : ∃ t, t = textO l := ⟨_, rfl⟩
    rw [← ht] at HT ⊢
    obtain rfl := HT.out
    obtain ⟨be, hbe⟩ : ∃ b, b = batchE l := ⟨_, rfl⟩
    rw [← hbe] at HC hE ⊢
    have hne : (be != 0) = true := by simpa using hE
    clear hn hs hf ht hE hbe HT
    go_enter Try.func19, Try.ntmps19
    go_wp2_with fail
    refine (HC.out _ (Below.refl _ _)).mono ?_
    rintro e w2 ⟨rfl, b2⟩
    have HB2 := Lib.hid b2
    clear b2
    go_wp2
    go_ret2
    exact ⟨rfl, HB2.out⟩
end Go.Proofs.Ytoajaacdhkknfaa

