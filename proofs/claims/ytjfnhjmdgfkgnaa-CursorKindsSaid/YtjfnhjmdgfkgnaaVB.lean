import Derived.Test.YtjfnhjmdgfkgnaaV7
import Derived.Laws.CopyOwn
import Derived.Test.YtjfnhjmdgfkgnaaN4
import Derived.Test.YtjfnhjmdgfkgnaaU13
/- A move of any kind, out of where it stands; the cursor's own: Move, Open, Up, Next, Seek. -/
namespace Go.Proofs.Ytjfnhjmdgfkgnaa
open Go.RowKit Go.Proofs.Kit Go.Shelf

section
variable {lo r : Nat} {w : World} {bs : List Br} {lv : List Int} {X : Cs} {ob : Option Addr} {m cb : Nat} {ol : Option Addr} {q cl : Nat} {ok : Option Addr} {nk ck : Nat} {o0 : Option Addr} {n0 c0 : Nat} {o1 : Option Addr} {n1 c1 : Nat}
set_option maxRecDepth 100000 in
set_option maxHeartbeats 4000000 in
theorem moved_lo (SD SS k key : Int) (h1 : k < 1) (hk : cerr k X = 180) :
    Calls Try.prog 80 #[.agg (SC ob m cb ol q cl ok nk ck SD o0 n0 c0 o1 n1 c1 SS), .agg #[.int .i64 k, .int .u64 key]] w (Told8 lo r bs lv k key X w) := by
  have hmf : ∀ (fn : Fn) (first cap : Array Value) (w : World), (Instr.makeFunc fn first cap).run Try.prog w = .ok (.func fn first cap) w := fun _ _ _ _ => rfl
  first
  | (have d1 : decide (k < 1) = true := by simpa using h1
     have d2 : decide (5 ≤ k) = false := by simp; omega)
  | (have d1 : decide (k < 1) = false := by simpa using h1
     have d2 : decide (5 ≤ k) = true := by simp; omega)
  have HC := Lib.hid hk
  clear hk
  go_enter_defers Try.func80, Try.ntmps80
  go_wp2_with fail
  obtain ⟨W, hW⟩ : ∃ W, W = ((((w.alloc (.cells (SC ob m cb ol q cl ok nk ck SD o0 n0 c0 o1 n1 c1 SS) 111)).alloc (.cells #[.int .i64 k, .int .u64 key] 70)).alloc (.cells #[.slice none 0 0, .slice none 0 0, .slice none 0 0, .int .i64 0, .slice none 0 0, .slice none 0 0, .int .i64 0] 111)).alloc (.cells #[.int .i64 0] 41)).alloc (.cells #[.nilFunc, .func (.func 115) #[] #[], .func (.func 116) #[] #[], .func (.func 117) #[] #[], .func (.func 118) #[] #[]] 161) := ⟨_, rfl⟩
  rw [← hW]
  have hws : MV w (SC ob m cb ol q cl ok nk ck SD o0 n0 c0 o1 n1 c1 SS) k key W := by rw [hW]; exact mv_new _ _ _ _
  have h4 : Blk W (w.heap.size + 1 + 1) nilS 111 := by rw [hW]; exact mv_new4 _ _ _ _
  clear hW
  obtain ⟨y7, hk5⟩ := hws.k5
  have kR := h4.other (p := ⟨w.heap.size + 1 + 1 + 1, 0, none⟩) (by simp) (.int .i64 180)
  have kE := hk5.set 0 (.int .i64 180)
  obtain ⟨r0, r1, r2, r3, r4, r5, r6⟩ := kR.all7
  have e0 := kE.cell 0
  simp only [List.setIfInBounds_toArray, List.set_cons_zero, List.getElem?_toArray, List.getElem?_cons_zero] at e0
  have hlow := (hws.st5 (.int .i64 180)).low
  refine leaves_cons (f := 114) (args := #[.pointer (some ⟨w.heap.size + 1 + 1 + 1, 0, none⟩)]) (by simp) (by simp [go_sem]) ?_
  refine (catch8_panicking _ _ _ _ _ hk5).mono ?_
  rintro e u' w'' ⟨rfl, rfl, rfl⟩
  exact ⟨.tuple #[.agg nilS, .int .i64 180], by simp [results, Try.results80, go_sem, r0, r1, r2, r3, r4, r5, r6, e0], hlow, .inr ⟨by rw [HC.out]; simp, by rw [HC.out]⟩⟩
set_option maxRecDepth 100000 in
set_option maxHeartbeats 4000000 in
theorem moved_hi (SD SS k key : Int) (h1 : ¬ k < 1) (h2 : 4 < k) (hk : cerr k X = 180) :
    Calls Try.prog 80 #[.agg (SC ob m cb ol q cl ok nk ck SD o0 n0 c0 o1 n1 c1 SS), .agg #[.int .i64 k, .int .u64 key]] w (Told8 lo r bs lv k key X w) := by
  have hmf : ∀ (fn : Fn) (first cap : Array Value) (w : World), (Instr.makeFunc fn first cap).run Try.prog w = .ok (.func fn first cap) w := fun _ _ _ _ => rfl
  first
  | (have d1 : decide (k < 1) = true := by simpa using h1
     have d2 : decide (5 ≤ k) = false := by simp; omega)
  | (have d1 : decide (k < 1) = false := by simpa using h1
     have d2 : decide (5 ≤ k) = true := by simp; omega)
  have HC := Lib.hid hk
  clear hk
  go_enter_defers Try.func80, Try.ntmps80
  go_wp2_with fail
  obtain ⟨W, hW⟩ : ∃ W, W = ((((w.alloc (.cells (SC ob m cb ol q cl ok nk ck SD o0 n0 c0 o1 n1 c1 SS) 111)).alloc (.cells #[.int .i64 k, .int .u64 key] 70)).alloc (.cells #[.slice none 0 0, .slice none 0 0, .slice none 0 0, .int .i64 0, .slice none 0 0, .slice none 0 0, .int .i64 0] 111)).alloc (.cells #[.int .i64 0] 41)).alloc (.cells #[.nilFunc, .func (.func 115) #[] #[], .func (.func 116) #[] #[], .func (.func 117) #[] #[], .func (.func 118) #[] #[]] 161) := ⟨_, rfl⟩
  rw [← hW]
  have hws : MV w (SC ob m cb ol q cl ok nk ck SD o0 n0 c0 o1 n1 c1 SS) k key W := by rw [hW]; exact mv_new _ _ _ _
  have h4 : Blk W (w.heap.size + 1 + 1) nilS 111 := by rw [hW]; exact mv_new4 _ _ _ _
  clear hW
  obtain ⟨y7, hk5⟩ := hws.k5
  have kR := h4.other (p := ⟨w.heap.size + 1 + 1 + 1, 0, none⟩) (by simp) (.int .i64 180)
  have kE := hk5.set 0 (.int .i64 180)
  obtain ⟨r0, r1, r2, r3, r4, r5, r6⟩ := kR.all7
  have e0 := kE.cell 0
  simp only [List.setIfInBounds_toArray, List.set_cons_zero, List.getElem?_toArray, List.getElem?_cons_zero] at e0
  have hlow := (hws.st5 (.int .i64 180)).low
  refine leaves_cons (f := 114) (args := #[.pointer (some ⟨w.heap.size + 1 + 1 + 1, 0, none⟩)]) (by simp) (by simp [go_sem]) ?_
  refine (catch8_panicking _ _ _ _ _ hk5).mono ?_
  rintro e u' w'' ⟨rfl, rfl, rfl⟩
  exact ⟨.tuple #[.agg nilS, .int .i64 180], by simp [results, Try.results80, go_sem, r0, r1, r2, r3, r4, r5, r6, e0], hlow, .inr ⟨by rw [HC.out]; simp, by rw [HC.out]⟩⟩
/-- A move of any kind. -/
theorem moved_st (h : StM lo r w bs lv X ob m cb ol q cl ok nk ck o0 n0 c0 o1 n1 c1) (hr : r ≤ w.heap.size) (hs : X.s ≤ 90000000000) (hu : U64s (keysB bs)) (hl : U64s lv) (k key : Int) (k0 : 0 ≤ key) (k1 : key < 18446744073709551616) :
    Calls Try.prog 80 #[.agg (SC ob m cb ol q cl ok nk ck (X.d : Int) o0 n0 c0 o1 n1 c1 (X.s : Int)), .agg #[.int .i64 k, .int .u64 key]] w (Told8 lo r bs lv k key X w) := by
  by_cases h1 : k < 1
  · exact moved_lo _ _ k key h1 (by unfold cerr; rw [if_pos (.inl h1)])
  by_cases h2 : 4 < k
  · exact moved_hi _ _ k key h1 h2 (by unfold cerr; rw [if_pos (.inr h2)])
  rcases (by omega : k = 1 ∨ k = 2 ∨ k = 3 ∨ k = 4) with rfl | rfl | rfl | rfl
  · by_cases hc : cerr 1 X = 0
    · exact moved1_ok _ _ key hr hc fun W g => copen_st (h.later g) hs key
    · exact moved1_no _ _ key hc fun W g => copen_st (h.later g) hs key
  · by_cases hc : cerr 2 X = 0
    · exact moved2_ok _ _ key hr hc fun W g => cup_st (h.later g) key
    · exact moved2_no _ _ key hc fun W g => cup_st (h.later g) key
  · by_cases hc : cerr 3 X = 0
    · exact moved3_ok _ _ key hr hc fun W g => cnext_st (h.later g) (Nat.le_trans hr g.size) hs key
    · exact moved3_no _ _ key hc fun W g => cnext_st (h.later g) (Nat.le_trans hr g.size) hs key
  · by_cases hc : cerr 4 X = 0
    · exact moved4_ok _ _ key hr hc fun W g => cseek_st (h.later g) (Nat.le_trans hr g.size) hs hu hl key k0 k1
    · exact moved4_no _ _ key hc fun W g => cseek_st (h.later g) (Nat.le_trans hr g.size) hs hu hl key k0 k1
end
end Go.Proofs.Ytjfnhjmdgfkgnaa


/- A store of where a cursor stands, in a region that draws its order. -/
namespace Go.Proofs.Ytjfnhjmdgfkgnaa
open Go.RowKit Go.Proofs.Kit Go.Shelf
theorem bz7 {W : World} {b : Nat} {y0 y1 y2 y3 y4 y5 y6 : Value} {t : TypeId} (h : Blk W b #[y0, y1, y2, y3, y4, y5, y6] t) :
    (W.frozen? ⟨b, 0, none⟩ = false ∧ W.frozen? ⟨b, 1, none⟩ = false ∧ W.frozen? ⟨b, 2, none⟩ = false ∧ W.frozen? ⟨b, 3, none⟩ = false ∧ W.frozen? ⟨b, 4, none⟩ = false ∧ W.frozen? ⟨b, 5, none⟩ = false ∧ W.frozen? ⟨b, 6, none⟩ = false) ∧ b < W.heap.size := ⟨bf7 h, h.lt⟩
abbrev SET7 (w : World) (b : Nat) (u0 u1 u2 u3 u4 u5 u6 : Value) : World := ((((((w.setCell ⟨b, 0, none⟩ u0).setCell ⟨b, 1, none⟩ u1).setCell ⟨b, 2, none⟩ u2).setCell ⟨b, 3, none⟩ u3).setCell ⟨b, 4, none⟩ u4).setCell ⟨b, 5, none⟩ u5).setCell ⟨b, 6, none⟩ u6
set_option maxHeartbeats 1000000 in
theorem store7 {ops : Array Oper} {md : Region.Mode} {S : World → Prop} {Q : Exit → Act → World → Prop} {o : Oper} {i p v : Nat} {fuel : Nat} {listed : Array Bool} {tmps : Array Value} {ds : List Deferred} {w : World} {b : Nat} {y0 y1 y2 y3 y4 y5 y6 : Value} {ob : Option Addr} {m cb : Nat} {ol : Option Addr} {q cl : Nat} {ok : Option Addr} {nk ck : Nat} {D : Int} {o0 : Option Addr} {n0 c0 : Nat} {o1 : Option Addr} {n1 c1 : Nat} {s : Int}
    (hr : Region.ready md ops listed = [i]) (ho : ops[i]? = some o) (hw : Region.wanted o (yielded ops tmps) = true) (hp : tmps.getD p undef = .pointer (some ⟨b, 0, none⟩)) (hv : tmps.getD v undef = .agg (SC ob m cb ol q cl ok nk ck D o0 n0 c0 o1 n1 c1 s)) (hb : Blk w b #[y0, y1, y2, y3, y4, y5, y6] 111) (e1 : o.op = Op.store 111 (Operand.tmp p) (Operand.tmp v)) (e2 : o.dst = none)
    (hS : S (SET7 w b (.slice ob m cb) (.slice ol q cl) (.slice ok nk ck) (.int .i64 D) (.slice o0 n0 c0) (.slice o1 n1 c1) (.int .i64 s))) (hn : ∀ W5, W5 = SET7 w b (.slice ob m cb) (.slice ol q cl) (.slice ok nk ck) (.int .i64 D) (.slice o0 n0 c0) (.slice o1 n1 c1) (.int .i64 s) → wpAnyH Try.prog md ops Q S fuel (listed.setIfInBounds i true) { tmps := tmps, defers := ds } W5) : wpAnyH Try.prog md ops Q S (fuel + 1) listed { tmps := tmps, defers := ds } w := by
  refine wpAnyH_ready hr (by simp) (AllReadyH.cons ho (fun K hK => ?_) AllReadyH.nil)
  rw [if_pos hw]
  have hK := hK.out
  obtain ⟨⟨f0, f1, f2, f3, f4, f5, f6⟩, lb⟩ := bz7 hb
  obtain ⟨v0, v1, v2, v3, v4, v5, v6⟩ := hb.all7
  obtain ⟨dst, op, ty, pos, after, guard⟩ := o
  simp only at e1 e2
  subst e1 e2
  have HN := Lib.hid hn
  have HKK := Lib.hid hK
  have HS := Lib.hid hS
  clear hn hK hS hr ho hw hb
  go_simp
  exact HKK.out _ _ HS.out (fun _ => HN.out _ rfl)
end Go.Proofs.Ytjfnhjmdgfkgnaa


/- The cursor itself: Move, Open, Up, Next, Seek. -/
namespace Go.Proofs.Ytjfnhjmdgfkgnaa
open Go.RowKit Go.Proofs.Kit Go.Shelf

/-- A cursor at r stands so. -/
def Cur (lo r : Nat) (w : World) (bs : List Br) (lv : List Int) (X : Cs) : Prop :=
  ∃ ob m cb ol q cl ok nk ck o0 n0 c0 o1 n1 c1, Blk w r (SC ob m cb ol q cl ok nk ck (X.d : Int) o0 n0 c0 o1 n1 c1 (X.s : Int)) 113 ∧ StM lo r w bs lv X ob m cb ol q cl ok nk ck o0 n0 c0 o1 n1 c1
theorem Cur.later {lo r : Nat} {w w' : World} {bs : List Br} {lv : List Int} {X : Cs} (h : Cur lo r w bs lv X) (hb : Below w.heap.size w w') : Cur lo r w' bs lv X := by
  obtain ⟨ob, m, cb, ol, q, cl, ok, nk, ck, o0, n0, c0, o1, n1, c1, hk, h⟩ := h
  exact ⟨ob, m, cb, ol, q, cl, ok, nk, ck, o0, n0, c0, o1, n1, c1, hk.later hb, h.later hb⟩
/-- What becomes of a cursor by a move. -/
def Mvd (lo r : Nat) (bs : List Br) (lv : List Int) (k key : Int) (X : Cs) (w : World) (e : Ending) (w' : World) : Prop :=
  But r w w' ∧ e = .returned (.int .i64 (cerr k X)) ∧ ((cerr k X = 0 ∧ ∃ q, Lk8 k key X q ∧ Cur lo r w' bs lv (cgo bs lv k key q X)) ∨ (cerr k X ≠ 0 ∧ Cur lo r w' bs lv X))
theorem told8_ok {lo r : Nat} {bs : List Br} {lv : List Int} {k key : Int} {X : Cs} {w : World} {e : Ending} {w' : World} (hc : cerr k X = 0) (h : Told8 lo r bs lv k key X w e w') :
    ∃ (q : Nat) (ob : Option Addr) (m cb : Nat) (ol : Option Addr) (qq cl : Nat) (ok : Option Addr) (nk ck : Nat) (o0 : Option Addr) (n0 c0 : Nat) (o1 : Option Addr) (n1 c1 : Nat) (X2 : Cs) (D2 S2 : Int), e = .returned (.tuple #[.agg (SC ob m cb ol qq cl ok nk ck D2 o0 n0 c0 o1 n1 c1 S2), .int .i64 0]) ∧
      Hid (Lk8 k key X q ∧ X2 = cgo bs lv k key q X ∧ D2 = (X2.d : Int) ∧ S2 = (X2.s : Int) ∧ StM lo r w' bs lv X2 ob m cb ol qq cl ok nk ck o0 n0 c0 o1 n1 c1) ∧ Below w.heap.size w w' := by
  obtain ⟨b, ⟨_, q, ob, m, cb, ol, qq, cl, ok, nk, ck, o0, n0, c0, o1, n1, c1, hL, rfl, hS⟩ | ⟨h1, _⟩⟩ := h
  · exact ⟨q, ob, m, cb, ol, qq, cl, ok, nk, ck, o0, n0, c0, o1, n1, c1, _, _, _, rfl, Lib.hid ⟨hL, rfl, rfl, rfl, hS⟩, b⟩
  · exact absurd hc h1
theorem told8_no {lo r : Nat} {bs : List Br} {lv : List Int} {k key : Int} {X : Cs} {w : World} {e : Ending} {w' : World} (hc : cerr k X ≠ 0) (h : Told8 lo r bs lv k key X w e w') :
    e = .returned (.tuple #[.agg nilS, .int .i64 (cerr k X)]) ∧ Below w.heap.size w w' := by
  obtain ⟨b, ⟨h1, _⟩ | ⟨_, h2⟩⟩ := h
  · exact absurd h1 hc
  · exact ⟨h2, b⟩
structure KV (w : World) (k key : Int) (W : World) : Prop where
  low : Below w.heap.size w W
  k3 : Blk W w.heap.size #[.int .i64 k, .int .u64 key] 70
theorem KV.later {w : World} {k key : Int} {W W' : World} (h : KV w k key W) (hb : Below W.heap.size W W') : KV w k key W' := ⟨below_later h.low hb, h.k3.later hb⟩
theorem KV.drew {w : World} {k key : Int} {W : World} (h : KV w k key W) : KV w k key W.drew := h.later (Below.refl _ _).drew
theorem KV.alloc {w : World} {k key : Int} {W : World} (h : KV w k key W) (o : Obj) : KV w k key (W.alloc o) := h.later ((Below.refl _ _).alloc (Nat.le_refl _) _)
theorem KV.set7 {w : World} {k key : Int} {W : World} (h : KV w k key W) {b : Nat} (hb : w.heap.size < b) (u0 u1 u2 u3 u4 u5 u6 : Value) :
    KV w k key (((((((W.setCell ⟨b, 0, none⟩ u0).setCell ⟨b, 1, none⟩ u1).setCell ⟨b, 2, none⟩ u2).setCell ⟨b, 3, none⟩ u3).setCell ⟨b, 4, none⟩ u4).setCell ⟨b, 5, none⟩ u5).setCell ⟨b, 6, none⟩ u6) :=
  ⟨below_set7 h.low (Nat.le_of_lt hb) _ _ _ _ _ _ _, ((((((h.k3.other (by simp; omega) _).other (by simp; omega) _).other (by simp; omega) _).other (by simp; omega) _).other (by simp; omega) _).other (by simp; omega) _).other (by simp; omega) _⟩
set_option maxRecDepth 100000 in
set_option maxHeartbeats 8000000 in
theorem kmove_ok {lo r : Nat} {w : World} {bs : List Br} {lv : List Int} {X : Cs} (h : Cur lo r w bs lv X) (hs : X.s ≤ 90000000000) (hu : U64s (keysB bs)) (hl : U64s lv) (k key : Int) (k0 : 0 ≤ key) (k1 : key < 18446744073709551616) (hc : cerr k X = 0) :
    Calls Try.prog 38 #[.pointer (some ⟨r, 0, none⟩), .agg #[.int .i64 k, .int .u64 key]] w (Mvd lo r bs lv k key X w) := by
  obtain ⟨ob, m, cb, ol, q, cl, ok, nk, ck, o0, n0, c0, o1, n1, c1, hk, hst⟩ := h
  have HM := Lib.hid (fun W (g : Below w.heap.size w W) => moved_st (hst.later g) (Nat.le_trans (Nat.le_of_lt hk.lt) g.size) hs hu hl k key k0 k1)
  obtain ⟨SD, hSD⟩ : ∃ SD : Int, SD = (X.d : Int) := ⟨_, rfl⟩
  obtain ⟨SS, hSS⟩ : ∃ SS : Int, SS = (X.s : Int) := ⟨_, rfl⟩
  rw [← hSD, ← hSS] at HM hk
  have HC := Lib.hid hc
  have HST := Lib.hid hst
  have HSD := Lib.hid (And.intro hSD hSS)
  have hrl := hk.lt
  clear hc hst hSD hSS k0 k1 hs hu hl
  obtain ⟨E, hE⟩ : ∃ E, E = cerr k X := ⟨_, rfl⟩
  have HE := Lib.hid hE
  clear hE
  have HR := Lib.hid hk
  go_enter Try.func38, Try.ntmps38
  have hkk : ∀ W', KV w k key W' → ((W'.cell? ⟨r, 0, none⟩ = some (.slice ob m cb) ∧ W'.cell? ⟨r, 1, none⟩ = some (.slice ol q cl) ∧ W'.cell? ⟨r, 2, none⟩ = some (.slice ok nk ck) ∧ W'.cell? ⟨r, 3, none⟩ = some (.int .i64 SD) ∧ W'.cell? ⟨r, 4, none⟩ = some (.slice o0 n0 c0) ∧ W'.cell? ⟨r, 5, none⟩ = some (.slice o1 n1 c1) ∧ W'.cell? ⟨r, 6, none⟩ = some (.int .i64 SS)) ∧ (W'.cell? ⟨w.heap.size, 0, none⟩ = some (.int .i64 k) ∧ W'.cell? ⟨w.heap.size, 1, none⟩ = some (.int .u64 key)) ∧ r < W'.heap.size ∧ w.heap.size < W'.heap.size) ∧ KV w k key W' :=
    fun W' g => ⟨⟨(HR.out.later g.low).all7, ⟨g.k3.cell 0, g.k3.cell 1⟩, (HR.out.later g.low).lt, g.k3.lt⟩, g⟩
  have HK := Lib.hid hkk
  clear hkk hk
  go_wp2_with fail
  obtain ⟨W0, hW0⟩ : ∃ W0, W0 = w.alloc (.cells #[.int .i64 k, .int .u64 key] 70) := ⟨_, rfl⟩
  have hws : KV w k key W0 := by rw [hW0]; exact ⟨(Below.refl _ _).alloc (Nat.le_refl _) _, Blk.new _ _ _⟩
  rw [← hW0]
  clear hW0
  refine wp_region_held_drew (S := (fun W' => ((W'.cell? ⟨r, 0, none⟩ = some (.slice ob m cb) ∧ W'.cell? ⟨r, 1, none⟩ = some (.slice ol q cl) ∧ W'.cell? ⟨r, 2, none⟩ = some (.slice ok nk ck) ∧ W'.cell? ⟨r, 3, none⟩ = some (.int .i64 SD) ∧ W'.cell? ⟨r, 4, none⟩ = some (.slice o0 n0 c0) ∧ W'.cell? ⟨r, 5, none⟩ = some (.slice o1 n1 c1) ∧ W'.cell? ⟨r, 6, none⟩ = some (.int .i64 SS)) ∧ (W'.cell? ⟨w.heap.size, 0, none⟩ = some (.int .i64 k) ∧ W'.cell? ⟨w.heap.size, 1, none⟩ = some (.int .u64 key)) ∧ r < W'.heap.size ∧ w.heap.size < W'.heap.size) ∧ KV w k key W')) (by kernel_rfl) ?_ (fun hHeld => ?_)
  · exact HK.out _ hws.drew
  have hws := hws.drew
  refine takeOn 0 { dst := some 10, op := Op.move (Operand.tmp 0), type := 60, pos := "cursor.go:77", after := #[], guard := none } (v := ?vok0) rfl (by kernel_rfl) (by kernel_rfl) (by kernel_rfl) (fun _ _ _ h => h) (by rfl) (by assumption) ?yvok0 ?_
  case yvok0 =>
    intro w hSw
    try dsimp only at hSw
    go_simp
    try (with_reducible rfl)
  try simp only [Act.put, List.setIfInBounds_toArray, List.set_cons_zero, List.set_cons_succ]
  refine takeOn 1 { dst := some 11, op := Op.nilCheck (Operand.tmp 10), type := 0, pos := "cursor.go:77", after := #[{ on := 0, ground := Ground.data }], guard := none } (v := ?vok1) rfl (by kernel_rfl) (by kernel_rfl) (by kernel_rfl) (fun _ _ _ h => h) (by rfl) (by assumption) ?yvok1 ?_
  case yvok1 =>
    intro w hSw
    try dsimp only at hSw
    go_simp
    try (with_reducible rfl)
  try simp only [Act.put, List.setIfInBounds_toArray, List.set_cons_zero, List.set_cons_succ]
  refine takeOn 2 { dst := some 12, op := Op.fieldAddr 113 (Operand.tmp 11) 0, type := 0, pos := "cursor.go:77", after := #[{ on := 1, ground := Ground.data }], guard := none } (v := ?vok2) rfl (by kernel_rfl) (by kernel_rfl) (by kernel_rfl) (fun _ _ _ h => h) (by rfl) (by assumption) ?yvok2 ?_
  case yvok2 =>
    intro w hSw
    try dsimp only at hSw
    go_simp
    try (with_reducible rfl)
  try simp only [Act.put, List.setIfInBounds_toArray, List.set_cons_zero, List.set_cons_succ]
  refine takeOn 3 { dst := some 13, op := Op.load 111 (Operand.tmp 12), type := 111, pos := "cursor.go:77", after := #[{ on := 2, ground := Ground.data }], guard := none } (v := ?vok3) rfl (by kernel_rfl) (by kernel_rfl) (by kernel_rfl) (fun _ _ _ h => h) (by rfl) (by assumption) ?yvok3 ?_
  case yvok3 =>
    intro w hSw
    try dsimp only at hSw
    go_simp
    try (with_reducible rfl)
  try simp only [Act.put, List.setIfInBounds_toArray, List.set_cons_zero, List.set_cons_succ]
  refine takeOn 4 { dst := some 14, op := Op.load 70 (Operand.tmp 3), type := 70, pos := "cursor.go:77", after := #[], guard := none } (v := ?vok4) rfl (by kernel_rfl) (by kernel_rfl) (by kernel_rfl) (fun _ _ _ h => h) (by rfl) (by assumption) ?yvok4 ?_
  case yvok4 =>
    intro w hSw
    try dsimp only at hSw
    go_simp
    try (with_reducible rfl)
  try simp only [Act.put, List.setIfInBounds_toArray, List.set_cons_zero, List.set_cons_succ]
  refine wpAnyH_ready (rs := [5, 9]) (by kernel_rfl) (by simp) ?_
  refine (AllReadyH.cons (o := { dst := some 15, op := Op.call { callee := Callee.value (Operand.func 80), args := #[Operand.tmp 13, Operand.tmp 14], argTypes := #[111, 70] }, type := 120, pos := "cursor.go:77", after := #[{ on := 3, ground := Ground.data }, { on := 4, ground := Ground.data }], guard := none }) rfl (fun K hK => ?_) (AllReadyH.cons (o := { dst := some 5, op := Op.alloc 111, type := 0, pos := "cursor.go:77", after := #[], guard := none }) rfl (fun K hK => ?_) AllReadyH.nil))
  · skip
    go_simp
    go_at_call 80
    refine (HM.out _ hws.low).mono ?_
    rintro e w3 h3
    obtain ⟨qq, ob', m', cb', ol', q', cl', ok', nk', ck', o0', n0', c0', o1', n1', c1', X2, D2, S2, rfl, hRes, lF⟩ := told8_ok HC.out h3
    clear h3
    try (go_wp2_with fail)
    refine hK.out _ _ ?_ (fun hHeld => ?_)
    · exact HK.out _ (hws.later lF)
    first | have kz := kz.later lF | skip
    have hws := hws.later lF
    clear hK K
    try simp only [Act.put, List.setIfInBounds_toArray, List.set_cons_zero, List.set_cons_succ]
    refine takeOn 6 { dst := some 9, op := Op.move (Operand.tmp 15), type := 120, pos := "cursor.go:77", after := #[{ on := 5, ground := Ground.data }], guard := none } (v := ?vok5) rfl (by kernel_rfl) (by kernel_rfl) (by kernel_rfl) (fun _ _ _ h => h) (by rfl) (by assumption) ?yvok5 ?_
    case yvok5 =>
      intro w hSw
      try dsimp only at hSw
      go_simp
      try (with_reducible rfl)
    try simp only [Act.put, List.setIfInBounds_toArray, List.set_cons_zero, List.set_cons_succ]
    refine takeOn 7 { dst := some 16, op := Op.extract (Operand.tmp 9) 0, type := 111, pos := "cursor.go:77", after := #[{ on := 6, ground := Ground.data }], guard := none } (v := ?vok6) rfl (by kernel_rfl) (by kernel_rfl) (by kernel_rfl) (fun _ _ _ h => h) (by rfl) (by assumption) ?yvok6 ?_
    case yvok6 =>
      intro w hSw
      try dsimp only at hSw
      go_simp
      try (with_reducible rfl)
    try simp only [Act.put, List.setIfInBounds_toArray, List.set_cons_zero, List.set_cons_succ]
    refine takeOn 8 { dst := some 17, op := Op.extract (Operand.tmp 9) 1, type := 41, pos := "cursor.go:77", after := #[{ on := 6, ground := Ground.data }, { on := 10, ground := Ground.gcOnly Departure.lateStores }], guard := none } (v := ?vok7) rfl (by kernel_rfl) (by kernel_rfl) (by kernel_rfl) (fun _ _ _ h => h) (by rfl) (by assumption) ?yvok7 ?_
    case yvok7 =>
      intro w hSw
      try dsimp only at hSw
      go_simp
      try (with_reducible rfl)
    try simp only [Act.put, List.setIfInBounds_toArray, List.set_cons_zero, List.set_cons_succ]
    refine wpAnyH_ready (rs := [9]) (by kernel_rfl) (by simp) ?_
    refine (AllReadyH.cons (o := { dst := some 5, op := Op.alloc 111, type := 0, pos := "cursor.go:77", after := #[], guard := none }) rfl (fun K hK => ?_) AllReadyH.nil)
    · skip
      go_simp
      try (go_wp2_with fail)
      refine hK.out _ _ ?_ (fun hHeld => ?_)
      · exact HK.out _ (hws.alloc _)
      have hzz := hws.k3.lt
      have kz := Blk.new w3 #[.slice none 0 0, .slice none 0 0, .slice none 0 0, .int .i64 0, .slice none 0 0, .slice none 0 0, .int .i64 0] 111
      have hws := hws.alloc (.cells #[.slice none 0 0, .slice none 0 0, .slice none 0 0, .int .i64 0, .slice none 0 0, .slice none 0 0, .int .i64 0] 111)
      clear hK K
      try simp only [Act.put, List.setIfInBounds_toArray, List.set_cons_zero, List.set_cons_succ]
      refine store7 (i := 10) (p := 5) (v := 16) (by kernel_rfl) rfl (by kernel_rfl) rfl rfl kz rfl rfl (HK.out _ (hws.set7 hzz _ _ _ _ _ _ _)) ?_
      intro W5 hW5
      have hL5 : Below r w3 W5 := by rw [hW5]; exact below_set7 ((Below.refl _ _).alloc (Nat.le_of_lt (Nat.lt_trans hrl hzz)) _) (Nat.le_of_lt (Nat.lt_trans hrl hzz)) _ _ _ _ _ _ _
      have kz5 : Blk W5 w3.heap.size (SC ob' m' cb' ol' q' cl' ok' nk' ck' D2 o0' n0' c0' o1' n1' c1' S2) 111 := by rw [hW5]; exact kz.set7 _ _ _ _ _ _ _
      have hws5 : KV w k key W5 := by rw [hW5]; exact hws.set7 hzz _ _ _ _ _ _ _
      clear hW5
      refine takeOn 11 { dst := some 6, op := Op.assign (Operand.tmp 17), type := 41, pos := "cursor.go:77", after := #[{ on := 8, ground := Ground.data }, { on := 10, ground := Ground.chain }, { on := 0, ground := Ground.phase }, { on := 1, ground := Ground.phase }, { on := 2, ground := Ground.phase }, { on := 3, ground := Ground.phase }, { on := 4, ground := Ground.phase }, { on := 5, ground := Ground.phase }, { on := 6, ground := Ground.phase }, { on := 7, ground := Ground.phase }, { on := 8, ground := Ground.phase }, { on := 9, ground := Ground.phase }, { on := 10, ground := Ground.phase }], guard := none } (v := ?vok8) rfl (by kernel_rfl) (by kernel_rfl) (by kernel_rfl) (fun _ _ _ h => h) (by rfl) (HK.out _ hws5) ?yvok8 ?_
      case yvok8 =>
        intro w hSw
        try dsimp only at hSw
        go_simp
        try (with_reducible rfl)
      try simp only [Act.put, List.setIfInBounds_toArray, List.set_cons_zero, List.set_cons_succ]
      refine wpAnyH_done (by kernel_rfl) ?_ _
      have hr5 := HR.out.later hws5.low
      obtain ⟨v0, v1, v2, v3, v4, v5, v6⟩ := kz5.all7
      obtain ⟨⟨f0, f1, f2, f3, f4, f5, f6⟩, fl⟩ := bz7 hr5
      obtain ⟨x0, x1, x2, x3, x4, x5, x6⟩ := hr5.all7
      have zl := kz5.lt
      have HR5 := Lib.hid hr5
      have HW5 := Lib.hid hws5
      clear hr5 kz5 hws5 hws kz hHeld
      go_wp2_with fail
      go_ret
      obtain ⟨hLk, hx, hd, hs, hS⟩ := hRes.out
      refine ⟨?_, by rw [HC.out]; rfl, .inl ⟨HC.out, qq, hLk, ?_⟩⟩
      · exact ((((((But.of_below HW5.out.low).set 0 _).set 1 _).set 2 _).set 3 _).set 4 _).set 5 _ |>.set 6 _
      · rw [← hx]
        refine ⟨ob', m', cb', ol', q', cl', ok', nk', ck', o0', n0', c0', o1', n1', c1', by rw [← hd, ← hs]; exact HR5.out.set7 _ _ _ _ _ _ _, ?_⟩
        exact (hS.lower hL5 (Nat.le_refl _)).lower (below_set7 (Below.refl r _) (Nat.le_refl _) _ _ _ _ _ _ _) (Nat.le_refl _)
  · skip
    go_simp
    try (go_wp2_with fail)
    refine hK.out _ _ ?_ (fun hHeld => ?_)
    · exact HK.out _ (hws.alloc _)
    have hzz := hws.k3.lt
    have kz := Blk.new W0.drew #[.slice none 0 0, .slice none 0 0, .slice none 0 0, .int .i64 0, .slice none 0 0, .slice none 0 0, .int .i64 0] 111
    have hws := hws.alloc (.cells #[.slice none 0 0, .slice none 0 0, .slice none 0 0, .int .i64 0, .slice none 0 0, .slice none 0 0, .int .i64 0] 111)
    clear hK K
    try simp only [Act.put, List.setIfInBounds_toArray, List.set_cons_zero, List.set_cons_succ]
    refine wpAnyH_ready (rs := [5]) (by kernel_rfl) (by simp) ?_
    refine (AllReadyH.cons (o := { dst := some 15, op := Op.call { callee := Callee.value (Operand.func 80), args := #[Operand.tmp 13, Operand.tmp 14], argTypes := #[111, 70] }, type := 120, pos := "cursor.go:77", after := #[{ on := 3, ground := Ground.data }, { on := 4, ground := Ground.data }], guard := none }) rfl (fun K hK => ?_) AllReadyH.nil)
    · skip
      go_simp
      go_at_call 80
      refine (HM.out _ hws.low).mono ?_
      rintro e w3 h3
      obtain ⟨qq, ob', m', cb', ol', q', cl', ok', nk', ck', o0', n0', c0', o1', n1', c1', X2, D2, S2, rfl, hRes, lF⟩ := told8_ok HC.out h3
      clear h3
      try (go_wp2_with fail)
      refine hK.out _ _ ?_ (fun hHeld => ?_)
      · exact HK.out _ (hws.later lF)
      first | have kz := kz.later lF | skip
      have hws := hws.later lF
      clear hK K
      try simp only [Act.put, List.setIfInBounds_toArray, List.set_cons_zero, List.set_cons_succ]
      refine takeOn 6 { dst := some 9, op := Op.move (Operand.tmp 15), type := 120, pos := "cursor.go:77", after := #[{ on := 5, ground := Ground.data }], guard := none } (v := ?vok9) rfl (by kernel_rfl) (by kernel_rfl) (by kernel_rfl) (fun _ _ _ h => h) (by rfl) (by assumption) ?yvok9 ?_
      case yvok9 =>
        intro w hSw
        try dsimp only at hSw
        go_simp
        try (with_reducible rfl)
      try simp only [Act.put, List.setIfInBounds_toArray, List.set_cons_zero, List.set_cons_succ]
      refine takeOn 7 { dst := some 16, op := Op.extract (Operand.tmp 9) 0, type := 111, pos := "cursor.go:77", after := #[{ on := 6, ground := Ground.data }], guard := none } (v := ?vok10) rfl (by kernel_rfl) (by kernel_rfl) (by kernel_rfl) (fun _ _ _ h => h) (by rfl) (by assumption) ?yvok10 ?_
      case yvok10 =>
        intro w hSw
        try dsimp only at hSw
        go_simp
        try (with_reducible rfl)
      try simp only [Act.put, List.setIfInBounds_toArray, List.set_cons_zero, List.set_cons_succ]
      refine takeOn 8 { dst := some 17, op := Op.extract (Operand.tmp 9) 1, type := 41, pos := "cursor.go:77", after := #[{ on := 6, ground := Ground.data }, { on := 10, ground := Ground.gcOnly Departure.lateStores }], guard := none } (v := ?vok11) rfl (by kernel_rfl) (by kernel_rfl) (by kernel_rfl) (fun _ _ _ h => h) (by rfl) (by assumption) ?yvok11 ?_
      case yvok11 =>
        intro w hSw
        try dsimp only at hSw
        go_simp
        try (with_reducible rfl)
      try simp only [Act.put, List.setIfInBounds_toArray, List.set_cons_zero, List.set_cons_succ]
      refine store7 (i := 10) (p := 5) (v := 16) (by kernel_rfl) rfl (by kernel_rfl) rfl rfl kz rfl rfl (HK.out _ (hws.set7 hzz _ _ _ _ _ _ _)) ?_
      intro W5 hW5
      have hL5 : Below r w3 W5 := by rw [hW5]; exact below_set7 (Below.refl _ _) (Nat.le_of_lt (Nat.lt_trans hrl hzz)) _ _ _ _ _ _ _
      have kz5 : Blk W5 W0.heap.size (SC ob' m' cb' ol' q' cl' ok' nk' ck' D2 o0' n0' c0' o1' n1' c1' S2) 111 := by rw [hW5]; exact kz.set7 _ _ _ _ _ _ _
      have hws5 : KV w k key W5 := by rw [hW5]; exact hws.set7 hzz _ _ _ _ _ _ _
      clear hW5
      refine takeOn 11 { dst := some 6, op := Op.assign (Operand.tmp 17), type := 41, pos := "cursor.go:77", after := #[{ on := 8, ground := Ground.data }, { on := 10, ground := Ground.chain }, { on := 0, ground := Ground.phase }, { on := 1, ground := Ground.phase }, { on := 2, ground := Ground.phase }, { on := 3, ground := Ground.phase }, { on := 4, ground := Ground.phase }, { on := 5, ground := Ground.phase }, { on := 6, ground := Ground.phase }, { on := 7, ground := Ground.phase }, { on := 8, ground := Ground.phase }, { on := 9, ground := Ground.phase }, { on := 10, ground := Ground.phase }], guard := none } (v := ?vok12) rfl (by kernel_rfl) (by kernel_rfl) (by kernel_rfl) (fun _ _ _ h => h) (by rfl) (HK.out _ hws5) ?yvok12 ?_
      case yvok12 =>
        intro w hSw
        try dsimp only at hSw
        go_simp
        try (with_reducible rfl)
      try simp only [Act.put, List.setIfInBounds_toArray, List.set_cons_zero, List.set_cons_succ]
      refine wpAnyH_done (by kernel_rfl) ?_ _
      have hr5 := HR.out.later hws5.low
      obtain ⟨v0, v1, v2, v3, v4, v5, v6⟩ := kz5.all7
      obtain ⟨⟨f0, f1, f2, f3, f4, f5, f6⟩, fl⟩ := bz7 hr5
      obtain ⟨x0, x1, x2, x3, x4, x5, x6⟩ := hr5.all7
      have zl := kz5.lt
      have HR5 := Lib.hid hr5
      have HW5 := Lib.hid hws5
      clear hr5 kz5 hws5 hws kz hHeld
      go_wp2_with fail
      go_ret
      obtain ⟨hLk, hx, hd, hs, hS⟩ := hRes.out
      refine ⟨?_, by rw [HC.out]; rfl, .inl ⟨HC.out, qq, hLk, ?_⟩⟩
      · exact ((((((But.of_below HW5.out.low).set 0 _).set 1 _).set 2 _).set 3 _).set 4 _).set 5 _ |>.set 6 _
      · rw [← hx]
        refine ⟨ob', m', cb', ol', q', cl', ok', nk', ck', o0', n0', c0', o1', n1', c1', by rw [← hd, ← hs]; exact HR5.out.set7 _ _ _ _ _ _ _, ?_⟩
        exact (hS.lower hL5 (Nat.le_refl _)).lower (below_set7 (Below.refl r _) (Nat.le_refl _) _ _ _ _ _ _ _) (Nat.le_refl _)
set_option maxRecDepth 100000 in
set_option maxHeartbeats 8000000 in
theorem kmove_no {lo r : Nat} {w : World} {bs : List Br} {lv : List Int} {X : Cs} (h : Cur lo r w bs lv X) (hs : X.s ≤ 90000000000) (hu : U64s (keysB bs)) (hl : U64s lv) (k key : Int) (k0 : 0 ≤ key) (k1 : key < 18446744073709551616) (hc : cerr k X ≠ 0) :
    Calls Try.prog 38 #[.pointer (some ⟨r, 0, none⟩), .agg #[.int .i64 k, .int .u64 key]] w (Mvd lo r bs lv k key X w) := by
  obtain ⟨ob, m, cb, ol, q, cl, ok, nk, ck, o0, n0, c0, o1, n1, c1, hk, hst⟩ := h
  have HM := Lib.hid (fun W (g : Below w.heap.size w W) => moved_st (hst.later g) (Nat.le_trans (Nat.le_of_lt hk.lt) g.size) hs hu hl k key k0 k1)
  obtain ⟨SD, hSD⟩ : ∃ SD : Int, SD = (X.d : Int) := ⟨_, rfl⟩
  obtain ⟨SS, hSS⟩ : ∃ SS : Int, SS = (X.s : Int) := ⟨_, rfl⟩
  rw [← hSD, ← hSS] at HM hk
  have HC := Lib.hid hc
  have HST := Lib.hid hst
  have HSD := Lib.hid (And.intro hSD hSS)
  have hrl := hk.lt
  clear hc hst hSD hSS k0 k1 hs hu hl
  obtain ⟨E, hE⟩ : ∃ E, E = cerr k X := ⟨_, rfl⟩
  have hE0 : (E == 0) = false := by rw [hE]; simpa using HC.out
  have HE := Lib.hid hE
  clear hE
  have HR := Lib.hid hk
  go_enter Try.func38, Try.ntmps38
  have hkk : ∀ W', KV w k key W' → ((W'.cell? ⟨r, 0, none⟩ = some (.slice ob m cb) ∧ W'.cell? ⟨r, 1, none⟩ = some (.slice ol q cl) ∧ W'.cell? ⟨r, 2, none⟩ = some (.slice ok nk ck) ∧ W'.cell? ⟨r, 3, none⟩ = some (.int .i64 SD) ∧ W'.cell? ⟨r, 4, none⟩ = some (.slice o0 n0 c0) ∧ W'.cell? ⟨r, 5, none⟩ = some (.slice o1 n1 c1) ∧ W'.cell? ⟨r, 6, none⟩ = some (.int .i64 SS)) ∧ (W'.cell? ⟨w.heap.size, 0, none⟩ = some (.int .i64 k) ∧ W'.cell? ⟨w.heap.size, 1, none⟩ = some (.int .u64 key)) ∧ r < W'.heap.size ∧ w.heap.size < W'.heap.size) ∧ KV w k key W' :=
    fun W' g => ⟨⟨(HR.out.later g.low).all7, ⟨g.k3.cell 0, g.k3.cell 1⟩, (HR.out.later g.low).lt, g.k3.lt⟩, g⟩
  have HK := Lib.hid hkk
  clear hkk hk
  go_wp2_with fail
  obtain ⟨W0, hW0⟩ : ∃ W0, W0 = w.alloc (.cells #[.int .i64 k, .int .u64 key] 70) := ⟨_, rfl⟩
  have hws : KV w k key W0 := by rw [hW0]; exact ⟨(Below.refl _ _).alloc (Nat.le_refl _) _, Blk.new _ _ _⟩
  rw [← hW0]
  clear hW0
  refine wp_region_held_drew (S := (fun W' => ((W'.cell? ⟨r, 0, none⟩ = some (.slice ob m cb) ∧ W'.cell? ⟨r, 1, none⟩ = some (.slice ol q cl) ∧ W'.cell? ⟨r, 2, none⟩ = some (.slice ok nk ck) ∧ W'.cell? ⟨r, 3, none⟩ = some (.int .i64 SD) ∧ W'.cell? ⟨r, 4, none⟩ = some (.slice o0 n0 c0) ∧ W'.cell? ⟨r, 5, none⟩ = some (.slice o1 n1 c1) ∧ W'.cell? ⟨r, 6, none⟩ = some (.int .i64 SS)) ∧ (W'.cell? ⟨w.heap.size, 0, none⟩ = some (.int .i64 k) ∧ W'.cell? ⟨w.heap.size, 1, none⟩ = some (.int .u64 key)) ∧ r < W'.heap.size ∧ w.heap.size < W'.heap.size) ∧ KV w k key W')) (by kernel_rfl) ?_ (fun hHeld => ?_)
  · exact HK.out _ hws.drew
  have hws := hws.drew
  refine takeOn 0 { dst := some 10, op := Op.move (Operand.tmp 0), type := 60, pos := "cursor.go:77", after := #[], guard := none } (v := ?vno0) rfl (by kernel_rfl) (by kernel_rfl) (by kernel_rfl) (fun _ _ _ h => h) (by rfl) (by assumption) ?yvno0 ?_
  case yvno0 =>
    intro w hSw
    try dsimp only at hSw
    go_simp
    try (with_reducible rfl)
  try simp only [Act.put, List.setIfInBounds_toArray, List.set_cons_zero, List.set_cons_succ]
  refine takeOn 1 { dst := some 11, op := Op.nilCheck (Operand.tmp 10), type := 0, pos := "cursor.go:77", after := #[{ on := 0, ground := Ground.data }], guard := none } (v := ?vno1) rfl (by kernel_rfl) (by kernel_rfl) (by kernel_rfl) (fun _ _ _ h => h) (by rfl) (by assumption) ?yvno1 ?_
  case yvno1 =>
    intro w hSw
    try dsimp only at hSw
    go_simp
    try (with_reducible rfl)
  try simp only [Act.put, List.setIfInBounds_toArray, List.set_cons_zero, List.set_cons_succ]
  refine takeOn 2 { dst := some 12, op := Op.fieldAddr 113 (Operand.tmp 11) 0, type := 0, pos := "cursor.go:77", after := #[{ on := 1, ground := Ground.data }], guard := none } (v := ?vno2) rfl (by kernel_rfl) (by kernel_rfl) (by kernel_rfl) (fun _ _ _ h => h) (by rfl) (by assumption) ?yvno2 ?_
  case yvno2 =>
    intro w hSw
    try dsimp only at hSw
    go_simp
    try (with_reducible rfl)
  try simp only [Act.put, List.setIfInBounds_toArray, List.set_cons_zero, List.set_cons_succ]
  refine takeOn 3 { dst := some 13, op := Op.load 111 (Operand.tmp 12), type := 111, pos := "cursor.go:77", after := #[{ on := 2, ground := Ground.data }], guard := none } (v := ?vno3) rfl (by kernel_rfl) (by kernel_rfl) (by kernel_rfl) (fun _ _ _ h => h) (by rfl) (by assumption) ?yvno3 ?_
  case yvno3 =>
    intro w hSw
    try dsimp only at hSw
    go_simp
    try (with_reducible rfl)
  try simp only [Act.put, List.setIfInBounds_toArray, List.set_cons_zero, List.set_cons_succ]
  refine takeOn 4 { dst := some 14, op := Op.load 70 (Operand.tmp 3), type := 70, pos := "cursor.go:77", after := #[], guard := none } (v := ?vno4) rfl (by kernel_rfl) (by kernel_rfl) (by kernel_rfl) (fun _ _ _ h => h) (by rfl) (by assumption) ?yvno4 ?_
  case yvno4 =>
    intro w hSw
    try dsimp only at hSw
    go_simp
    try (with_reducible rfl)
  try simp only [Act.put, List.setIfInBounds_toArray, List.set_cons_zero, List.set_cons_succ]
  refine wpAnyH_ready (rs := [5, 9]) (by kernel_rfl) (by simp) ?_
  refine (AllReadyH.cons (o := { dst := some 15, op := Op.call { callee := Callee.value (Operand.func 80), args := #[Operand.tmp 13, Operand.tmp 14], argTypes := #[111, 70] }, type := 120, pos := "cursor.go:77", after := #[{ on := 3, ground := Ground.data }, { on := 4, ground := Ground.data }], guard := none }) rfl (fun K hK => ?_) (AllReadyH.cons (o := { dst := some 5, op := Op.alloc 111, type := 0, pos := "cursor.go:77", after := #[], guard := none }) rfl (fun K hK => ?_) AllReadyH.nil))
  · skip
    go_simp
    go_at_call 80
    refine (HM.out _ hws.low).mono ?_
    rintro e w3 h3
    obtain ⟨rfl, lF⟩ := told8_no HC.out h3
    rw [← HE.out]
    clear h3
    try (go_wp2_with fail)
    refine hK.out _ _ ?_ (fun hHeld => ?_)
    · exact HK.out _ (hws.later lF)
    first | have kz := kz.later lF | skip
    have hws := hws.later lF
    clear hK K
    try simp only [Act.put, List.setIfInBounds_toArray, List.set_cons_zero, List.set_cons_succ]
    refine takeOn 6 { dst := some 9, op := Op.move (Operand.tmp 15), type := 120, pos := "cursor.go:77", after := #[{ on := 5, ground := Ground.data }], guard := none } (v := ?vno5) rfl (by kernel_rfl) (by kernel_rfl) (by kernel_rfl) (fun _ _ _ h => h) (by rfl) (by assumption) ?yvno5 ?_
    case yvno5 =>
      intro w hSw
      try dsimp only at hSw
      go_simp
      try (with_reducible rfl)
    try simp only [Act.put, List.setIfInBounds_toArray, List.set_cons_zero, List.set_cons_succ]
    refine takeOn 7 { dst := some 16, op := Op.extract (Operand.tmp 9) 0, type := 111, pos := "cursor.go:77", after := #[{ on := 6, ground := Ground.data }], guard := none } (v := ?vno6) rfl (by kernel_rfl) (by kernel_rfl) (by kernel_rfl) (fun _ _ _ h => h) (by rfl) (by assumption) ?yvno6 ?_
    case yvno6 =>
      intro w hSw
      try dsimp only at hSw
      go_simp
      try (with_reducible rfl)
    try simp only [Act.put, List.setIfInBounds_toArray, List.set_cons_zero, List.set_cons_succ]
    refine takeOn 8 { dst := some 17, op := Op.extract (Operand.tmp 9) 1, type := 41, pos := "cursor.go:77", after := #[{ on := 6, ground := Ground.data }, { on := 10, ground := Ground.gcOnly Departure.lateStores }], guard := none } (v := ?vno7) rfl (by kernel_rfl) (by kernel_rfl) (by kernel_rfl) (fun _ _ _ h => h) (by rfl) (by assumption) ?yvno7 ?_
    case yvno7 =>
      intro w hSw
      try dsimp only at hSw
      go_simp
      try (with_reducible rfl)
    try simp only [Act.put, List.setIfInBounds_toArray, List.set_cons_zero, List.set_cons_succ]
    refine wpAnyH_ready (rs := [9]) (by kernel_rfl) (by simp) ?_
    refine (AllReadyH.cons (o := { dst := some 5, op := Op.alloc 111, type := 0, pos := "cursor.go:77", after := #[], guard := none }) rfl (fun K hK => ?_) AllReadyH.nil)
    · skip
      go_simp
      try (go_wp2_with fail)
      refine hK.out _ _ ?_ (fun hHeld => ?_)
      · exact HK.out _ (hws.alloc _)
      have hzz := hws.k3.lt
      have kz := Blk.new w3 #[.slice none 0 0, .slice none 0 0, .slice none 0 0, .int .i64 0, .slice none 0 0, .slice none 0 0, .int .i64 0] 111
      have hws := hws.alloc (.cells #[.slice none 0 0, .slice none 0 0, .slice none 0 0, .int .i64 0, .slice none 0 0, .slice none 0 0, .int .i64 0] 111)
      clear hK K
      try simp only [Act.put, List.setIfInBounds_toArray, List.set_cons_zero, List.set_cons_succ]
      refine store7 (i := 10) (p := 5) (v := 16) (by kernel_rfl) rfl (by kernel_rfl) rfl rfl kz rfl rfl (HK.out _ (hws.set7 hzz _ _ _ _ _ _ _)) ?_
      intro W5 hW5
      have kz5 : Blk W5 w3.heap.size nilS 111 := by rw [hW5]; exact kz.set7 _ _ _ _ _ _ _
      have hws5 : KV w k key W5 := by rw [hW5]; exact hws.set7 hzz _ _ _ _ _ _ _
      clear hW5
      refine takeOn 11 { dst := some 6, op := Op.assign (Operand.tmp 17), type := 41, pos := "cursor.go:77", after := #[{ on := 8, ground := Ground.data }, { on := 10, ground := Ground.chain }, { on := 0, ground := Ground.phase }, { on := 1, ground := Ground.phase }, { on := 2, ground := Ground.phase }, { on := 3, ground := Ground.phase }, { on := 4, ground := Ground.phase }, { on := 5, ground := Ground.phase }, { on := 6, ground := Ground.phase }, { on := 7, ground := Ground.phase }, { on := 8, ground := Ground.phase }, { on := 9, ground := Ground.phase }, { on := 10, ground := Ground.phase }], guard := none } (v := ?vno8) rfl (by kernel_rfl) (by kernel_rfl) (by kernel_rfl) (fun _ _ _ h => h) (by rfl) (HK.out _ hws5) ?yvno8 ?_
      case yvno8 =>
        intro w hSw
        try dsimp only at hSw
        go_simp
        try (with_reducible rfl)
      try simp only [Act.put, List.setIfInBounds_toArray, List.set_cons_zero, List.set_cons_succ]
      refine wpAnyH_done (by kernel_rfl) ?_ _
      have hr5 := HR.out.later hws5.low
      have HR5 := Lib.hid hr5
      have HW5 := Lib.hid hws5
      clear hr5 kz5 hws5 hws kz hHeld
      go_wp2_with fail
      go_ret
      refine ⟨But.of_below HW5.out.low, by first | rfl | (rw [HE.out]; rfl) | (rw [← HE.out]; rfl), .inr ⟨HC.out, ob, m, cb, ol, q, cl, ok, nk, ck, o0, n0, c0, o1, n1, c1, by rw [← HSD.out.1, ← HSD.out.2]; exact HR5.out, HST.out.later HW5.out.low⟩⟩
  · skip
    go_simp
    try (go_wp2_with fail)
    refine hK.out _ _ ?_ (fun hHeld => ?_)
    · exact HK.out _ (hws.alloc _)
    have hzz := hws.k3.lt
    have kz := Blk.new W0.drew #[.slice none 0 0, .slice none 0 0, .slice none 0 0, .int .i64 0, .slice none 0 0, .slice none 0 0, .int .i64 0] 111
    have hws := hws.alloc (.cells #[.slice none 0 0, .slice none 0 0, .slice none 0 0, .int .i64 0, .slice none 0 0, .slice none 0 0, .int .i64 0] 111)
    clear hK K
    try simp only [Act.put, List.setIfInBounds_toArray, List.set_cons_zero, List.set_cons_succ]
    refine wpAnyH_ready (rs := [5]) (by kernel_rfl) (by simp) ?_
    refine (AllReadyH.cons (o := { dst := some 15, op := Op.call { callee := Callee.value (Operand.func 80), args := #[Operand.tmp 13, Operand.tmp 14], argTypes := #[111, 70] }, type := 120, pos := "cursor.go:77", after := #[{ on := 3, ground := Ground.data }, { on := 4, ground := Ground.data }], guard := none }) rfl (fun K hK => ?_) AllReadyH.nil)
    · skip
      go_simp
      go_at_call 80
      refine (HM.out _ hws.low).mono ?_
      rintro e w3 h3
      obtain ⟨rfl, lF⟩ := told8_no HC.out h3
      rw [← HE.out]
      clear h3
      try (go_wp2_with fail)
      refine hK.out _ _ ?_ (fun hHeld => ?_)
      · exact HK.out _ (hws.later lF)
      first | have kz := kz.later lF | skip
      have hws := hws.later lF
      clear hK K
      try simp only [Act.put, List.setIfInBounds_toArray, List.set_cons_zero, List.set_cons_succ]
      refine takeOn 6 { dst := some 9, op := Op.move (Operand.tmp 15), type := 120, pos := "cursor.go:77", after := #[{ on := 5, ground := Ground.data }], guard := none } (v := ?vno9) rfl (by kernel_rfl) (by kernel_rfl) (by kernel_rfl) (fun _ _ _ h => h) (by rfl) (by assumption) ?yvno9 ?_
      case yvno9 =>
        intro w hSw
        try dsimp only at hSw
        go_simp
        try (with_reducible rfl)
      try simp only [Act.put, List.setIfInBounds_toArray, List.set_cons_zero, List.set_cons_succ]
      refine takeOn 7 { dst := some 16, op := Op.extract (Operand.tmp 9) 0, type := 111, pos := "cursor.go:77", after := #[{ on := 6, ground := Ground.data }], guard := none } (v := ?vno10) rfl (by kernel_rfl) (by kernel_rfl) (by kernel_rfl) (fun _ _ _ h => h) (by rfl) (by assumption) ?yvno10 ?_
      case yvno10 =>
        intro w hSw
        try dsimp only at hSw
        go_simp
        try (with_reducible rfl)
      try simp only [Act.put, List.setIfInBounds_toArray, List.set_cons_zero, List.set_cons_succ]
      refine takeOn 8 { dst := some 17, op := Op.extract (Operand.tmp 9) 1, type := 41, pos := "cursor.go:77", after := #[{ on := 6, ground := Ground.data }, { on := 10, ground := Ground.gcOnly Departure.lateStores }], guard := none } (v := ?vno11) rfl (by kernel_rfl) (by kernel_rfl) (by kernel_rfl) (fun _ _ _ h => h) (by rfl) (by assumption) ?yvno11 ?_
      case yvno11 =>
        intro w hSw
        try dsimp only at hSw
        go_simp
        try (with_reducible rfl)
      try simp only [Act.put, List.setIfInBounds_toArray, List.set_cons_zero, List.set_cons_succ]
      refine store7 (i := 10) (p := 5) (v := 16) (by kernel_rfl) rfl (by kernel_rfl) rfl rfl kz rfl rfl (HK.out _ (hws.set7 hzz _ _ _ _ _ _ _)) ?_
      intro W5 hW5
      have kz5 : Blk W5 W0.heap.size nilS 111 := by rw [hW5]; exact kz.set7 _ _ _ _ _ _ _
      have hws5 : KV w k key W5 := by rw [hW5]; exact hws.set7 hzz _ _ _ _ _ _ _
      clear hW5
      refine takeOn 11 { dst := some 6, op := Op.assign (Operand.tmp 17), type := 41, pos := "cursor.go:77", after := #[{ on := 8, ground := Ground.data }, { on := 10, ground := Ground.chain }, { on := 0, ground := Ground.phase }, { on := 1, ground := Ground.phase }, { on := 2, ground := Ground.phase }, { on := 3, ground := Ground.phase }, { on := 4, ground := Ground.phase }, { on := 5, ground := Ground.phase }, { on := 6, ground := Ground.phase }, { on := 7, ground := Ground.phase }, { on := 8, ground := Ground.phase }, { on := 9, ground := Ground.phase }, { on := 10, ground := Ground.phase }], guard := none } (v := ?vno12) rfl (by kernel_rfl) (by kernel_rfl) (by kernel_rfl) (fun _ _ _ h => h) (by rfl) (HK.out _ hws5) ?yvno12 ?_
      case yvno12 =>
        intro w hSw
        try dsimp only at hSw
        go_simp
        try (with_reducible rfl)
      try simp only [Act.put, List.setIfInBounds_toArray, List.set_cons_zero, List.set_cons_succ]
      refine wpAnyH_done (by kernel_rfl) ?_ _
      have hr5 := HR.out.later hws5.low
      have HR5 := Lib.hid hr5
      have HW5 := Lib.hid hws5
      clear hr5 kz5 hws5 hws kz hHeld
      go_wp2_with fail
      go_ret
      refine ⟨But.of_below HW5.out.low, by first | rfl | (rw [HE.out]; rfl) | (rw [← HE.out]; rfl), .inr ⟨HC.out, ob, m, cb, ol, q, cl, ok, nk, ck, o0, n0, c0, o1, n1, c1, by rw [← HSD.out.1, ← HSD.out.2]; exact HR5.out, HST.out.later HW5.out.low⟩⟩
theorem kmove_any {lo r : Nat} {w : World} {bs : List Br} {lv : List Int} {X : Cs} (h : Cur lo r w bs lv X) (hs : X.s ≤ 90000000000) (hu : U64s (keysB bs)) (hl : U64s lv) (k key : Int) (k0 : 0 ≤ key) (k1 : key < 18446744073709551616) :
    Calls Try.prog 38 #[.pointer (some ⟨r, 0, none⟩), .agg #[.int .i64 k, .int .u64 key]] w (Mvd lo r bs lv k key X w) := by
  by_cases hc : cerr k X = 0
  · exact kmove_ok h hs hu hl k key k0 k1 hc
  · exact kmove_no h hs hu hl k key k0 k1 hc
set_option maxRecDepth 100000 in
set_option maxHeartbeats 400000 in
theorem kOpen_any {lo r : Nat} {w : World} {bs : List Br} {lv : List Int} {X : Cs} (h : Cur lo r w bs lv X) (hs : X.s ≤ 90000000000) (hu : U64s (keysB bs)) (hl : U64s lv) :
    Calls Try.prog 40 #[.pointer (some ⟨r, 0, none⟩)] w (Mvd lo r bs lv 1 0 X w) := by
  have HM := Lib.hid (kmove_any h hs hu hl 1 0 (by omega) (by omega))
  clear h hs hu hl
  go_enter Try.func40, Try.ntmps40
  go_wp2_with fail
  refine HM.out.mono ?_
  rintro e w1 ⟨hb, rfl, hR⟩
  go_wp2_with fail
  go_ret
  exact ⟨hb, rfl, hR⟩
set_option maxRecDepth 100000 in
set_option maxHeartbeats 400000 in
theorem kUp_any {lo r : Nat} {w : World} {bs : List Br} {lv : List Int} {X : Cs} (h : Cur lo r w bs lv X) (hs : X.s ≤ 90000000000) (hu : U64s (keysB bs)) (hl : U64s lv) :
    Calls Try.prog 41 #[.pointer (some ⟨r, 0, none⟩)] w (Mvd lo r bs lv 2 0 X w) := by
  have HM := Lib.hid (kmove_any h hs hu hl 2 0 (by omega) (by omega))
  clear h hs hu hl
  go_enter Try.func41, Try.ntmps41
  go_wp2_with fail
  refine HM.out.mono ?_
  rintro e w1 ⟨hb, rfl, hR⟩
  go_wp2_with fail
  go_ret
  exact ⟨hb, rfl, hR⟩
set_option maxRecDepth 100000 in
set_option maxHeartbeats 400000 in
theorem kNext_any {lo r : Nat} {w : World} {bs : List Br} {lv : List Int} {X : Cs} (h : Cur lo r w bs lv X) (hs : X.s ≤ 90000000000) (hu : U64s (keysB bs)) (hl : U64s lv) :
    Calls Try.prog 42 #[.pointer (some ⟨r, 0, none⟩)] w (Mvd lo r bs lv 3 0 X w) := by
  have HM := Lib.hid (kmove_any h hs hu hl 3 0 (by omega) (by omega))
  clear h hs hu hl
  go_enter Try.func42, Try.ntmps42
  go_wp2_with fail
  refine HM.out.mono ?_
  rintro e w1 ⟨hb, rfl, hR⟩
  go_wp2_with fail
  go_ret
  exact ⟨hb, rfl, hR⟩
set_option maxRecDepth 100000 in
set_option maxHeartbeats 400000 in
theorem kSeek_any {lo r : Nat} {w : World} {bs : List Br} {lv : List Int} {X : Cs} (h : Cur lo r w bs lv X) (hs : X.s ≤ 90000000000) (hu : U64s (keysB bs)) (hl : U64s lv) (key : Int) (k0 : 0 ≤ key) (k1 : key < 18446744073709551616) :
    Calls Try.prog 43 #[.pointer (some ⟨r, 0, none⟩), .int .u64 key] w (Mvd lo r bs lv 4 key X w) := by
  have HM := Lib.hid (kmove_any h hs hu hl 4 key k0 k1)
  clear h hs hu hl
  go_enter Try.func43, Try.ntmps43
  go_wp2_with fail
  refine HM.out.mono ?_
  rintro e w1 ⟨hb, rfl, hR⟩
  go_wp2_with fail
  go_ret
  exact ⟨hb, rfl, hR⟩
end Go.Proofs.Ytjfnhjmdgfkgnaa


/- What a cursor tells: Key, Left, Depth, Steps; copies. -/
namespace Go.Proofs.Ytjfnhjmdgfkgnaa
open Go.RowKit Go.Proofs.Kit Go.Shelf

/-- A cursor's cells, whatever they are. -/
structure CurB (lo r : Nat) (w : World) (bs : List Br) (lv : List Int) (X : Cs) (ob : Option Addr) (m cb : Nat) (ol : Option Addr) (q cl : Nat) (ok : Option Addr) (nk ck : Nat) (SD : Int) (o0 : Option Addr) (n0 c0 : Nat) (o1 : Option Addr) (n1 c1 : Nat) (SS : Int) : Prop where
  k : Blk w r (SC ob m cb ol q cl ok nk ck SD o0 n0 c0 o1 n1 c1 SS) 113
  st : StM lo r w bs lv X ob m cb ol q cl ok nk ck o0 n0 c0 o1 n1 c1
  d : SD = (X.d : Int)
  s : SS = (X.s : Int)
theorem Cur.open {lo r : Nat} {w : World} {bs : List Br} {lv : List Int} {X : Cs} (h : Cur lo r w bs lv X) : ∃ ob m cb ol q cl ok nk ck SD o0 n0 c0 o1 n1 c1 SS, CurB lo r w bs lv X ob m cb ol q cl ok nk ck SD o0 n0 c0 o1 n1 c1 SS := by
  obtain ⟨ob, m, cb, ol, q, cl, ok, nk, ck, o0, n0, c0, o1, n1, c1, hk, h⟩ := h
  exact ⟨ob, m, cb, ol, q, cl, ok, nk, ck, _, o0, n0, c0, o1, n1, c1, _, hk, h, rfl, rfl⟩
theorem row_at {lo r : Nat} {w : World} {bs : List Br} {lv : List Int} {X : Cs} {ob : Option Addr} {m cb : Nat} {ol : Option Addr} {q cl : Nat} {ok : Option Addr} {nk ck : Nat} {SD : Int} {o0 : Option Addr} {n0 c0 : Nat} {o1 : Option Addr} {n1 c1 : Nat} {SS : Int} (h : CurB lo r w bs lv X ob m cb ol q cl ok nk ck SD o0 n0 c0 o1 n1 c1 SS) :
    ∃ o n c, Hid (Seg .u64 w (.slice o n c) X.row) ∧ ∀ W, Below w.heap.size w W → Calls Try.prog 82 #[.agg (SC ob m cb ol q cl ok nk ck SD o0 n0 c0 o1 n1 c1 SS)] W fun e w' => e = .returned (.slice o n c) ∧ Below W.heap.size W w' := by
  have hd2 := h.st.ck.d2
  rcases (by omega : X.d = 0 ∨ X.d = 1 ∨ X.d = 2) with e | e | e
  · have ed : SD = 0 := by rw [h.d, e]; rfl
    rw [ed]
    exact ⟨none, 0, 0, Lib.hid (by simp [Cs.row, e, Seg.nil]), fun W _ => crow0b ob m cb ol q cl ok nk ck o0 n0 c0 o1 n1 c1 SS W⟩
  · have ed : SD = 1 := by rw [h.d, e]; rfl
    rw [ed]
    exact ⟨o0, n0, c0, Lib.hid (by simpa [Cs.row, e] using h.st.s0), fun W _ => crow1b ob m cb ol q cl ok nk ck o0 n0 c0 o1 n1 c1 SS W⟩
  · have ed : SD = 2 := by rw [h.d, e]; rfl
    rw [ed]
    exact ⟨o1, n1, c1, Lib.hid (by simpa [Cs.row, e] using h.st.s1), fun W _ => crow2b ob m cb ol q cl ok nk ck o0 n0 c0 o1 n1 c1 SS W⟩
section
variable {lo r : Nat} {w : World} {bs : List Br} {lv : List Int} {X : Cs}
set_option maxRecDepth 100000 in
set_option maxHeartbeats 1000000 in
theorem kSteps_any (h : Cur lo r w bs lv X) : Calls Try.prog 37 #[.pointer (some ⟨r, 0, none⟩)] w fun e w' => e = .returned (.int .i64 (X.s : Int)) ∧ w' = w := by
  obtain ⟨ob, m, cb, ol, q, cl, ok, nk, ck, SD, o0, n0, c0, o1, n1, c1, SS, hB⟩ := h.open
  obtain ⟨a0, a1, a2, a3, a4, a5, a6⟩ := hB.k.all7
  have hl := hB.k.lt
  have HS := Lib.hid hB.s
  clear hB h
  go_enter Try.func37, Try.ntmps37
  go_wp2
  go_ret
  exact ⟨by rw [HS.out]; rfl, rfl⟩
set_option maxRecDepth 100000 in
set_option maxHeartbeats 1000000 in
theorem kDepth_any (h : Cur lo r w bs lv X) : Calls Try.prog 44 #[.pointer (some ⟨r, 0, none⟩)] w fun e w' => e = .returned (.int .i64 (X.d : Int)) ∧ w' = w := by
  obtain ⟨ob, m, cb, ol, q, cl, ok, nk, ck, SD, o0, n0, c0, o1, n1, c1, SS, hB⟩ := h.open
  obtain ⟨a0, a1, a2, a3, a4, a5, a6⟩ := hB.k.all7
  have hl := hB.k.lt
  have HS := Lib.hid hB.d
  clear hB h
  go_enter Try.func44, Try.ntmps44
  go_wp2
  go_ret
  exact ⟨by rw [HS.out]; rfl, rfl⟩
set_option maxRecDepth 100000 in
set_option maxHeartbeats 1000000 in
theorem kLeft_any (h : Cur lo r w bs lv X) : Calls Try.prog 45 #[.pointer (some ⟨r, 0, none⟩)] w fun e w' => e = .returned (.int .i64 (X.row.length : Int)) ∧ Below w.heap.size w w' := by
  obtain ⟨ob, m, cb, ol, q, cl, ok, nk, ck, SD, o0, n0, c0, o1, n1, c1, SS, hB⟩ := h.open
  obtain ⟨a0, a1, a2, a3, a4, a5, a6⟩ := hB.k.all7
  have hl := hB.k.lt
  obtain ⟨o, n, c, hs, hrow⟩ := row_at hB
  have hn := segU_len hs.out
  have HR := Lib.hid hrow
  have HN := Lib.hid hn
  clear hB h hrow hn
  go_enter Try.func45, Try.ntmps45
  go_wp2_with fail
  refine (HR.out _ (Below.refl _ _)).mono ?_
  rintro e w1 ⟨rfl, b1⟩
  go_wp2
  go_ret
  exact ⟨by rw [HN.out]; rfl, b1⟩
theorem head0 {l : List Int} (h : 0 < l.length) : l[0] = l.headD 0 := by
  cases l with
  | nil => simp at h
  | cons a t => rfl
/-- The number where it stands; 0: there is none. -/
def ckey (X : Cs) : Int := X.row.headD 0
set_option maxRecDepth 100000 in
set_option maxHeartbeats 1000000 in
theorem kKey_any (h : Cur lo r w bs lv X) : Calls Try.prog 46 #[.pointer (some ⟨r, 0, none⟩)] w fun e w' => e = .returned (.tuple #[.int .u64 (ckey X), .bool (decide (X.row ≠ []))]) ∧ Below w.heap.size w w' := by
  obtain ⟨ob, m, cb, ol, q, cl, ok, nk, ck, SD, o0, n0, c0, o1, n1, c1, SS, hB⟩ := h.open
  have HK := Lib.hid hB.k
  obtain ⟨a0, a1, a2, a3, a4, a5, a6⟩ := hB.k.all7
  have hl := hB.k.lt
  obtain ⟨o, n, c, hs, hrow⟩ := row_at hB
  have hn := segU_len hs.out
  have HR := Lib.hid hrow
  by_cases hr : X.row = []
  · obtain rfl : n = 0 := by rw [← hn, hr]; rfl
    have HX := Lib.hid hr
    clear hB h hrow hn hr
    go_enter Try.func46, Try.ntmps46
    go_wp2_with fail
    refine (HR.out _ (Below.refl _ _)).mono ?_
    rintro e w1 ⟨rfl, b1⟩
    go_wp2
    go_ret2
    exact ⟨by unfold ckey; rw [HX.out]; simp, b1⟩
  · have hlen := List.length_pos_iff.2 hr
    obtain ⟨b, f, rfl, hnc, hcm, hbl, hcell⟩ := segU_has hs.out (by omega)
    have h0 := hcell 0 hlen
    rw [Nat.add_zero] at h0
    have hn0 : ((n : Int) == 0) = false := by simp; omega
    have HX := Lib.hid hr
    have HC := Lib.hid h0
    have HBL := Lib.hid hbl
    have hn1 : 0 < n := by omega
    have hkey : X.row[0] = ckey X := head0 hlen
    have HKY := Lib.hid hkey
    clear hB h hrow hn hr h0 hcell hbl hkey
    go_enter Try.func46, Try.ntmps46
    go_wp2_with fail
    refine (HR.out _ (Below.refl _ _)).mono ?_
    rintro e w1 ⟨rfl, b1⟩
    have k1 := HK.out.later b1
    obtain ⟨x0, x1, x2, x3, x4, x5, x6⟩ := k1.all7
    have l1 := k1.lt
    clear a0 a1 a2 a3 a4 a5 a6 hl
    go_wp2_with fail
    refine (HR.out _ b1).mono ?_
    rintro e w2 ⟨rfl, b2⟩
    have hb2 := b1.trans (b2.mono b1.size)
    have c0' := (hb2.cell (p := ⟨b, f, none⟩) HBL.out).trans HC.out
    rw [HKY.out] at c0'
    go_wp2
    go_ret2
    exact ⟨by have := HX.out; simp [this], hb2⟩
end
end Go.Proofs.Ytjfnhjmdgfkgnaa


/- copy(out, l), both of one length, out a row of the call's own, of elements of any size. -/
namespace Go.Proofs.Kit
open Go.RowKit
theorem wpList_copyF {P : Program} {w : World} {ops : Array Oper} {rest : List Oper} {o : Oper} {a : Act} {Q : Exit → Act → World → Prop} (hgd : o.guard = none) (d s : Operand) (dT sT : TypeId)
    (ho : o.op = .call { callee := .builtin .copy, args := #[d, s], argTypes := #[dT, sT] }) (elem : TypeId) (hu : P.underlying dT = some (.slice elem)) (sz : Nat) (hsz : (P.info? elem).map (·.size) = some sz)
    (B : Nat) (v : Value) (n : Nat) (cs0 : List Value) (hown : w.ownsRow B elem sz v n cs0) (hd : a.eval d = v) (so : Option Addr) (sc : Nat) (hs : a.eval s = .slice so n sc) (cs : List Value) (hcs : cs.length = n * sz) (h1 : ∀ u ∈ cs, u.oneCell' = true)
    (hsrc : 0 < n → ∃ b f, so = some ⟨b, f, none⟩ ∧ ∀ j u, cs[j]? = some u → w.cell? ((⟨b, f, none⟩ : Addr).add j) = some u)
    (h : ∀ w', w'.ownsRow B elem sz v n cs → Below B w w' → wpList P ops Q rest (a.put o.dst (.int .i64 n)) w') : wpList P ops Q (o :: rest) a w := by
  refine wpList_plain hgd fun K hK => ?_
  obtain ⟨i, hi, hi2⟩ : ∃ i, P.info? elem = some i ∧ i.size = sz := by
    cases hq : P.info? elem with
    | none => simp [hq] at hsz
    | some i => exact ⟨i, rfl, by simpa [hq] using hsz⟩
  by_cases h0 : n = 0
  · subst h0
    have e0 : cs0 = cs := by
      have h2 := hown.1
      rw [List.length_eq_zero_iff.1 (by omega : cs0.length = 0), List.length_eq_zero_iff.1 (by omega : cs.length = 0)]
    rw [← e0] at h
    obtain ⟨vo, vc, rfl⟩ : ∃ vo vc, v = .slice vo 0 vc := by
      rcases hown.2 with ⟨rfl, _⟩ | ⟨g, cap, cur, rfl, _⟩
      · exact ⟨none, 0, rfl⟩
      · exact ⟨_, _, rfl⟩
    have hrun : (Builtin.copy_ #[dT, sT] o.type #[.slice vo 0 vc, .slice so 0 sc]).run P w = .ok (goInt 0) w := by
      cases so <;> cases vo <;> simp [Builtin.copy_, run_underlying hu, Builtin.lenOf, Builtin.firstCells, sizeOf, typeInfo, hi, storeCells, loadCells, loadCellsFrom]
    unfold Oper.wp
    have hd' : a.eval d = .slice vo 0 vc := hd
    have hs' : a.eval s = .slice so 0 sc := hs
    simp [execOp, ho, resolve, invoke, builtin, hd', hs', hrun, Result.andThen]
    exact hK _ _ (h w hown (Below.refl _ _))
  · obtain ⟨b, f, rfl, hcells⟩ := hsrc (by omega)
    obtain ⟨g, cap, cur, rfl, hg, hb, h1', h2, h3, h4⟩ : ∃ g cap cur, v = .slice (some ⟨g, 0, none⟩) n cap ∧ B ≤ g ∧ Blk w g cur elem ∧ n ≤ cap ∧ cap ≤ maxLen ∧ cur.size = cap * sz ∧ cur.toList.take (n * sz) = cs0 := by
      rcases hown.2 with ⟨_, h2⟩ | h2
      · omega
      · exact h2
    have hfit : n * sz ≤ cap * sz := Nat.mul_le_mul_right sz h1'
    have hl := run_loadCells_list (P := P) w ⟨b, f, none⟩ cs hcells
    have hst := run_storeCells_at P g 0 elem cs 0 cur w hb (by rw [hcs]; omega) h1
    simp only [Nat.zero_add] at hst
    rw [hcs] at hl
    have hrun : (Builtin.copy_ #[dT, sT] o.type #[.slice (some ⟨g, 0, none⟩) n cap, .slice (some ⟨b, f, none⟩) n sc]).run P w =
        .ok (goInt n) (w.setRow g (cur.toList.take 0 ++ cs ++ cur.toList.drop cs.length).toArray) := by
      simp [Builtin.copy_, run_underlying hu, Builtin.lenOf, Builtin.firstCells, sizeOf, typeInfo, hi, hi2, hl, hst]
    unfold Oper.wp
    simp [execOp, ho, resolve, invoke, builtin, hd, hs, hrun, Result.andThen]
    refine hK _ _ (h _ ?_ (below_setRow (Below.refl _ _) hg _))
    refine ⟨hcs, .inr ⟨g, cap, (cs ++ cur.toList.drop cs.length).toArray, rfl, hg, blk_setRow hb _, h1', h2, ?_, ?_⟩⟩
    · simp [hcs]; omega
    · simp [← hcs]
theorem flat3_src {w : World} {b f : Nat} {l : List Br} (h : RCells w b f l) : ∀ j v, (flat3 l)[j]? = some v → w.cell? ((⟨b, f, none⟩ : Addr).add j) = some v := by
  intro j u hj
  have hjn : j < l.length * 3 := by have := (List.getElem?_eq_some_iff.1 hj).1; rwa [flat3_length] at this
  have hk : j / 3 < l.length := by omega
  rw [Addr.add_lit]
  have h' : j = j / 3 * 3 ∨ j = j / 3 * 3 + 1 ∨ j = j / 3 * 3 + 2 := by omega
  rcases h' with e | e | e
  · rw [e] at hj ⊢
    rw [(h _ hk).1, ← hj, (flat3_get l _ hk).1]
  · rw [e] at hj ⊢
    rw [show f + (j / 3 * 3 + 1) = f + j / 3 * 3 + 1 from rfl, (h _ hk).2.1, ← hj, (flat3_get l _ hk).2.1]
  · rw [e] at hj ⊢
    rw [show f + (j / 3 * 3 + 2) = f + j / 3 * 3 + 2 from rfl, (h _ hk).2.2, ← hj, (flat3_get l _ hk).2.2]
end Go.Proofs.Kit
namespace Go.Proofs.Ytjfnhjmdgfkgnaa
open Go.RowKit Go.Proofs.Kit Go.Shelf
theorem sizeBr : (Try.prog.info? 68).map (·.size) = some 3 := by kernel_rfl
theorem sizeU : (Try.prog.info? 32).map (·.size) = some 1 := by kernel_rfl
set_option maxRecDepth 100000 in
set_option maxHeartbeats 1000000 in
theorem ccopB_any (v : Value) (l : List Br) (w : World) (hs : SegR w v l) (hl : l.length ≤ 100000) :
    Calls Try.prog 71 #[v] w fun e w' => ∃ v', e = .returned v' ∧ OwnR 68 w.heap.size w' v' l ∧ Below w.heap.size w w' := by
  obtain ⟨i0, hi, hz0, hz1, hz2⟩ := infoB
  obtain ⟨o, c, rfl, hc, hm, hsh⟩ := hs.shape
  have HSH := Lib.hid hsh
  obtain ⟨n, hn⟩ : ∃ n, n = l.length := ⟨_, rfl⟩
  rw [← hn] at hl hc ⊢
  have HN := Lib.hid hn
  clear hn hs hsh
  go_enter Try.func71, Try.ntmps71
  go_wp2_with (refine wpList_make_full _ rfl _ _ _ rfl w.heap.size 68 i0 (.agg #[.int .u64 0, .int .i64 0, .int .i64 0]) 3 Try.underlying22 hi hz0 hz1 .i64 .i64 _ _ n rfl rfl rfl rfl ?ma ?mb ?mc ?_)
  case ma => rw [hz2]; omega
  case mb => unfold maxLen; omega
  case mc => exact Nat.le_refl _
  intro w1 ho1 hg1
  have hb1 : Below w.heap.size w w1 := (Below.refl _ _).grown hg1 (Nat.le_refl _) (fun _ h => by cases h)
  have HO := Lib.hid ho1
  clear ho1 hg1
  go_wp2_with (with_reducible refine wpList_copyF rfl _ _ 22 22 rfl 68 Try.underlying22 3 sizeBr w.heap.size _ n _ HO.out rfl o c rfl (flat3 l) ?ca (flat3_one l) ?cb ?_)
  case ca => rw [flat3_length, HN.out]
  case cb =>
    intro h0
    rcases HSH.out with e | ⟨b, f, rfl, hlt, hcells⟩
    · have := HN.out; rw [e] at this; simp at this; omega
    · refine ⟨b, f, rfl, fun j u hj => ?_⟩
      rw [Addr.add_lit]
      refine (hb1.cell (p := ⟨b, f + j, none⟩) hlt).trans ?_
      have := flat3_src hcells j u hj
      rwa [Addr.add_lit] at this
  intro w2 hO2 hb2
  have e := HN.out
  go_wp2
  go_ret
  exact ⟨_, rfl, ⟨by omega, by rw [← e]; exact hO2⟩, hb1.trans hb2⟩
set_option maxRecDepth 100000 in
set_option maxHeartbeats 1000000 in
theorem ccopU_any (v : Value) (l : List Int) (w : World) (hs : Seg .u64 w v l) (hl : l.length ≤ 100000) :
    Calls Try.prog 72 #[v] w fun e w' => ∃ v', e = .returned v' ∧ Owns .u64 32 w.heap.size w' v' l ∧ Below w.heap.size w w' := by
  obtain ⟨i0, hi, hz0, hz1, hz2⟩ := infou
  obtain ⟨o, c, rfl, hc, hm, hsh⟩ := hs.shape
  have HSH := Lib.hid hsh
  obtain ⟨n, hn⟩ : ∃ n, n = l.length := ⟨_, rfl⟩
  rw [← hn] at hl hc ⊢
  have HN := Lib.hid hn
  clear hn hs hsh
  go_enter Try.func72, Try.ntmps72
  go_wp2_with (refine wpList_make_full _ rfl _ _ _ rfl w.heap.size 32 i0 (.int .u64 0) 1 Try.underlying23 hi hz0 hz1 .i64 .i64 _ _ n rfl rfl rfl rfl ?ma ?mb ?mc ?_)
  case ma => rw [hz2]; omega
  case mb => unfold maxLen; omega
  case mc => exact Nat.le_refl _
  intro w1 ho1 hg1
  have hb1 : Below w.heap.size w w1 := (Below.refl _ _).grown hg1 (Nat.le_refl _) (fun _ h => by cases h)
  have HO := Lib.hid ho1
  clear ho1 hg1
  go_wp2_with (with_reducible refine wpList_copyF rfl _ _ 23 23 rfl 32 Try.underlying23 1 sizeU w.heap.size _ n _ HO.out rfl o c rfl (l.map (Value.int .u64)) ?ca ?cc ?cb ?_)
  case ca => rw [List.length_map, HN.out]; omega
  case cc => intro u hu; obtain ⟨x, _, rfl⟩ := List.mem_map.1 hu; rfl
  case cb =>
    intro h0
    rcases HSH.out with e | ⟨b, f, rfl, hlt, hcells⟩
    · have := HN.out; rw [e] at this; simp at this; omega
    · refine ⟨b, f, rfl, fun j u hj => ?_⟩
      rw [Addr.add_lit]
      refine (hb1.cell (p := ⟨b, f + j, none⟩) hlt).trans ?_
      rw [List.getElem?_map] at hj
      have hjl : j < l.length := by
        by_cases c : j < l.length
        · exact c
        · rw [List.getElem?_eq_none (by omega)] at hj; simp at hj
      rw [List.getElem?_eq_getElem hjl] at hj
      simp only [Option.map_some, Option.some.injEq] at hj
      rw [← hj]
      exact hcells j hjl
  intro w2 hO2 hb2
  have e := HN.out
  go_wp2
  go_ret
  exact ⟨_, rfl, by unfold Owns; rw [← e]; exact hO2, hb1.trans hb2⟩
end Go.Proofs.Ytjfnhjmdgfkgnaa

