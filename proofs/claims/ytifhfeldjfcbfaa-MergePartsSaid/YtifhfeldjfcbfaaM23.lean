/- MergeParts: what has been done is the beginning: the region that asks it, by one invariant (tools/gen_m23.py). -/
import Derived.Test.YtifhfeldjfcbfaaMD
namespace Go.Proofs.Ytifhfeldjfcbfaa
open Go.RowKit Go.Proofs.Kit Go.Shelf
structure MRI (w0 : World) (bp bq bm kk : Nat) (o1 : Option Addr) (n1 c1 : Nat) (o2 : Option Addr) (n2 c2 : Nat) (o3 : Option Addr) (n3 c3 : Nat) (o4 : Option Addr) (n4 c4 : Nat) (m0 m1 m2 m3 m4 m6 m7 s0 s1 s2 s3 s4 s5 s6 s7 s8 s9 s10 s11 s12 s13 s14 s15 s16 s18 s19 s22 s23 s24 s25 s26 s27 s28 s29 s30 s31 s32 s33 s34 s35 s36 s37 s38 s39 s40 s41 s42 s43 s44 s45 s46 s47 s48 s49 s50 s51 s52 s53 s54 s55 s56 s57 s58 s59 s60 s61 s62 s63 s64 s65 s66 s67 s68 s69 s70 s71 s72 s73 s74 s75 s76 s77 s78 s79 s80 s81 s82 s83 s84 s85 s86 s87 s88 s89 s90 s91 s92 s93 s94 s95 s96 s97 s98 s99 s100 s101 s102 s103 s104 s105 s106 s159 s160 s161 s162 s163 s164 s165 s166 s167 s168 s169 s170 s171 s172 s173 s174 s175 s176 s177 s178 s179 s180 s181 s182 s183 s184 s185 s186 s187 s188 s189 s190 s191 s192 s193 s194 s195 s196 s197 s198 s199 s200 s201 s202 s203 s204 s205 s206 s207 s208 s209 s210 s211 s212 s213 s214 s215 s216 s217 s218 : Value) (L : Nat → Bool) (w : World) (t107 t108 t109 t110 t111 t112 t113 t114 t115 t116 t117 t118 t119 t120 t121 t122 t123 t124 t125 t126 t127 t128 t129 t130 t131 t132 t133 t134 t135 t136 t137 t138 t139 t140 t141 t142 t143 t144 t145 t146 t147 t148 t149 t150 t151 t152 t153 t154 t155 t156 t157 t158 : Value) : Prop where
  low : Below w0.heap.size w0 w
  kp : Blk w bp #[.slice o1 n1 c1, .slice o2 n2 c2] 24
  kq : Blk w bq #[.slice o3 n3 c3, .slice o4 n4 c4] 24
  km : Blk w bm #[m0, m1, m2, m3, m4, .int .i64 (kk : Int), m6, m7] 26
  h0 : L 0 = true → t107 = .pointer (some ⟨bp, 0, none⟩)
  h1 : L 1 = true → t108 = .slice o1 n1 c1
  h2 : L 2 = true → t109 = .int .i64 (n1 : Int)
  h3 : L 3 = true → t110 = .pointer (some ⟨bq, 0, none⟩)
  h4 : L 4 = true → t111 = .slice o3 n3 c3
  h5 : L 5 = true → t112 = .int .i64 (n3 : Int)
  h6 : L 6 = true → t113 = .bool false
  h7 : L 7 = true → t114 = .bool false
  h8 : L 8 = true → t115 = .pointer (some ⟨bp, 1, none⟩)
  h9 : L 9 = true → t116 = .slice o2 n2 c2
  h10 : L 10 = true → t117 = .int .i64 (n2 : Int)
  h11 : L 11 = true → t118 = .pointer (some ⟨bq, 1, none⟩)
  h12 : L 12 = true → t119 = .slice o4 n4 c4
  h13 : L 13 = true → t120 = .int .i64 (n4 : Int)
  h14 : L 14 = true → t121 = .bool false
  h15 : L 15 = true → t122 = .bool false
  h16 : L 16 = true → t123 = .bool false
  h17 : L 17 = true → t124 = .pointer (some ⟨bp, 0, none⟩)
  h18 : L 18 = true → t125 = .slice o1 n1 c1
  h19 : L 19 = true → t126 = .pointer (some ⟨bq, 0, none⟩)
  h20 : L 20 = true → t127 = .slice o3 n3 c3
  h21 : L 21 = true → t128 = .pointer (some ⟨bp, 0, none⟩)
  h22 : L 22 = true → t129 = .slice o1 n1 c1
  h23 : L 23 = true → t130 = .int .i64 (n1 : Int)
  h24 : L 24 = true → t131 = .slice o3 n1 c3
  h25 : L 25 = true → t132 = .bool true
  h26 : L 26 = true → t133 = .bool false
  h27 : L 27 = true → t134 = .bool false
  h28 : L 28 = true → t135 = .bool false
  h29 : L 29 = true → t136 = .pointer (some ⟨bp, 1, none⟩)
  h30 : L 30 = true → t137 = .slice o2 n2 c2
  h31 : L 31 = true → t138 = .pointer (some ⟨bq, 1, none⟩)
  h32 : L 32 = true → t139 = .slice o4 n4 c4
  h33 : L 33 = true → t140 = .pointer (some ⟨bp, 1, none⟩)
  h34 : L 34 = true → t141 = .slice o2 n2 c2
  h35 : L 35 = true → t142 = .int .i64 (n2 : Int)
  h36 : L 36 = true → t143 = .slice o4 n2 c4
  h37 : L 37 = true → t144 = .bool true
  h38 : L 38 = true → t145 = .bool false
  h39 : L 39 = true → t146 = .bool false
  h40 : L 40 = true → t147 = .bool false
  h41 : L 41 = true → t148 = .pointer (some ⟨bp, 0, none⟩)
  h42 : L 42 = true → t149 = .slice o1 n1 c1
  h43 : L 43 = true → t150 = .int .i64 (n1 : Int)
  h44 : L 44 = true → t151 = .pointer (some ⟨bp, 1, none⟩)
  h45 : L 45 = true → t152 = .slice o2 n2 c2
  h46 : L 46 = true → t153 = .int .i64 (n2 : Int)
  h47 : L 47 = true → t154 = .int .i64 ((n1 : Int) + (n2 : Int))
  h48 : L 48 = true → t155 = .pointer (some ⟨bm, 5, none⟩)
  h49 : L 49 = true → t156 = .int .i64 (kk : Int)
  h50 : L 50 = true → t157 = .bool false
  h51 : L 51 = true → t158 = .bool false
def MRV (w0 : World) (bp bq bm kk : Nat) (o1 : Option Addr) (n1 c1 : Nat) (o2 : Option Addr) (n2 c2 : Nat) (o3 : Option Addr) (n3 c3 : Nat) (o4 : Option Addr) (n4 c4 : Nat) (m0 m1 m2 m3 m4 m6 m7 s0 s1 s2 s3 s4 s5 s6 s7 s8 s9 s10 s11 s12 s13 s14 s15 s16 s18 s19 s22 s23 s24 s25 s26 s27 s28 s29 s30 s31 s32 s33 s34 s35 s36 s37 s38 s39 s40 s41 s42 s43 s44 s45 s46 s47 s48 s49 s50 s51 s52 s53 s54 s55 s56 s57 s58 s59 s60 s61 s62 s63 s64 s65 s66 s67 s68 s69 s70 s71 s72 s73 s74 s75 s76 s77 s78 s79 s80 s81 s82 s83 s84 s85 s86 s87 s88 s89 s90 s91 s92 s93 s94 s95 s96 s97 s98 s99 s100 s101 s102 s103 s104 s105 s106 s159 s160 s161 s162 s163 s164 s165 s166 s167 s168 s169 s170 s171 s172 s173 s174 s175 s176 s177 s178 s179 s180 s181 s182 s183 s184 s185 s186 s187 s188 s189 s190 s191 s192 s193 s194 s195 s196 s197 s198 s199 s200 s201 s202 s203 s204 s205 s206 s207 s208 s209 s210 s211 s212 s213 s214 s215 s216 s217 s218 : Value) (L : Nat → Bool) (a : Act) (X : World) : Prop :=
  ∃ t107 t108 t109 t110 t111 t112 t113 t114 t115 t116 t117 t118 t119 t120 t121 t122 t123 t124 t125 t126 t127 t128 t129 t130 t131 t132 t133 t134 t135 t136 t137 t138 t139 t140 t141 t142 t143 t144 t145 t146 t147 t148 t149 t150 t151 t152 t153 t154 t155 t156 t157 t158, a = { tmps := #[s0, s1, s2, s3, s4, s5, s6, s7, s8, s9, s10, s11, s12, s13, s14, s15, s16, .pointer (some ⟨bm, 0, none⟩), s18, s19, .pointer (some ⟨bp, 0, none⟩), .pointer (some ⟨bq, 0, none⟩), s22, s23, s24, s25, s26, s27, s28, s29, s30, s31, s32, s33, s34, s35, s36, s37, s38, s39, s40, s41, s42, s43, s44, s45, s46, s47, s48, s49, s50, s51, s52, s53, s54, s55, s56, s57, s58, s59, s60, s61, s62, s63, s64, s65, s66, s67, s68, s69, s70, s71, s72, s73, s74, s75, s76, s77, s78, s79, s80, s81, s82, s83, s84, s85, s86, s87, s88, s89, s90, s91, s92, s93, s94, s95, s96, s97, s98, s99, s100, s101, s102, s103, s104, s105, s106, t107, t108, t109, t110, t111, t112, t113, t114, t115, t116, t117, t118, t119, t120, t121, t122, t123, t124, t125, t126, t127, t128, t129, t130, t131, t132, t133, t134, t135, t136, t137, t138, t139, t140, t141, t142, t143, t144, t145, t146, t147, t148, t149, t150, t151, t152, t153, t154, t155, t156, t157, t158, s159, s160, s161, s162, s163, s164, s165, s166, s167, s168, s169, s170, s171, s172, s173, s174, s175, s176, s177, s178, s179, s180, s181, s182, s183, s184, s185, s186, s187, s188, s189, s190, s191, s192, s193, s194, s195, s196, s197, s198, s199, s200, s201, s202, s203, s204, s205, s206, s207, s208, s209, s210, s211, s212, s213, s214, s215, s216, s217, s218], defers := [] } ∧ MRI w0 bp bq bm kk o1 n1 c1 o2 n2 c2 o3 n3 c3 o4 n4 c4 m0 m1 m2 m3 m4 m6 m7 s0 s1 s2 s3 s4 s5 s6 s7 s8 s9 s10 s11 s12 s13 s14 s15 s16 s18 s19 s22 s23 s24 s25 s26 s27 s28 s29 s30 s31 s32 s33 s34 s35 s36 s37 s38 s39 s40 s41 s42 s43 s44 s45 s46 s47 s48 s49 s50 s51 s52 s53 s54 s55 s56 s57 s58 s59 s60 s61 s62 s63 s64 s65 s66 s67 s68 s69 s70 s71 s72 s73 s74 s75 s76 s77 s78 s79 s80 s81 s82 s83 s84 s85 s86 s87 s88 s89 s90 s91 s92 s93 s94 s95 s96 s97 s98 s99 s100 s101 s102 s103 s104 s105 s106 s159 s160 s161 s162 s163 s164 s165 s166 s167 s168 s169 s170 s171 s172 s173 s174 s175 s176 s177 s178 s179 s180 s181 s182 s183 s184 s185 s186 s187 s188 s189 s190 s191 s192 s193 s194 s195 s196 s197 s198 s199 s200 s201 s202 s203 s204 s205 s206 s207 s208 s209 s210 s211 s212 s213 s214 s215 s216 s217 s218 L X t107 t108 t109 t110 t111 t112 t113 t114 t115 t116 t117 t118 t119 t120 t121 t122 t123 t124 t125 t126 t127 t128 t129 t130 t131 t132 t133 t134 t135 t136 t137 t138 t139 t140 t141 t142 t143 t144 t145 t146 t147 t148 t149 t150 t151 t152 t153 t154 t155 t156 t157 t158
set_option maxRecDepth 100000 in
set_option maxHeartbeats 32000000 in
theorem MR_region {Q : Exit → Act → World → Prop} (w0 : World) (bp bq bm kk : Nat) (o1 : Option Addr) (n1 c1 : Nat) (o2 : Option Addr) (n2 c2 : Nat) (o3 : Option Addr) (n3 c3 : Nat) (o4 : Option Addr) (n4 c4 : Nat) (m0 m1 m2 m3 m4 m6 m7 s0 s1 s2 s3 s4 s5 s6 s7 s8 s9 s10 s11 s12 s13 s14 s15 s16 s18 s19 s22 s23 s24 s25 s26 s27 s28 s29 s30 s31 s32 s33 s34 s35 s36 s37 s38 s39 s40 s41 s42 s43 s44 s45 s46 s47 s48 s49 s50 s51 s52 s53 s54 s55 s56 s57 s58 s59 s60 s61 s62 s63 s64 s65 s66 s67 s68 s69 s70 s71 s72 s73 s74 s75 s76 s77 s78 s79 s80 s81 s82 s83 s84 s85 s86 s87 s88 s89 s90 s91 s92 s93 s94 s95 s96 s97 s98 s99 s100 s101 s102 s103 s104 s105 s106 s159 s160 s161 s162 s163 s164 s165 s166 s167 s168 s169 s170 s171 s172 s173 s174 s175 s176 s177 s178 s179 s180 s181 s182 s183 s184 s185 s186 s187 s188 s189 s190 s191 s192 s193 s194 s195 s196 s197 s198 s199 s200 s201 s202 s203 s204 s205 s206 s207 s208 s209 s210 s211 s212 s213 s214 s215 s216 s217 s218 : Value) (z107 z108 z109 z110 z111 z112 z113 z114 z115 z116 z117 z118 z119 z120 z121 z122 z123 z124 z125 z126 z127 z128 z129 z130 z131 z132 z133 z134 z135 z136 z137 z138 z139 z140 z141 z142 z143 z144 z145 z146 z147 z148 z149 z150 z151 z152 z153 z154 z155 z156 z157 z158 : Value) (W : World) (a : Act) (ha : a = { tmps := #[s0, s1, s2, s3, s4, s5, s6, s7, s8, s9, s10, s11, s12, s13, s14, s15, s16, .pointer (some ⟨bm, 0, none⟩), s18, s19, .pointer (some ⟨bp, 0, none⟩), .pointer (some ⟨bq, 0, none⟩), s22, s23, s24, s25, s26, s27, s28, s29, s30, s31, s32, s33, s34, s35, s36, s37, s38, s39, s40, s41, s42, s43, s44, s45, s46, s47, s48, s49, s50, s51, s52, s53, s54, s55, s56, s57, s58, s59, s60, s61, s62, s63, s64, s65, s66, s67, s68, s69, s70, s71, s72, s73, s74, s75, s76, s77, s78, s79, s80, s81, s82, s83, s84, s85, s86, s87, s88, s89, s90, s91, s92, s93, s94, s95, s96, s97, s98, s99, s100, s101, s102, s103, s104, s105, s106, z107, z108, z109, z110, z111, z112, z113, z114, z115, z116, z117, z118, z119, z120, z121, z122, z123, z124, z125, z126, z127, z128, z129, z130, z131, z132, z133, z134, z135, z136, z137, z138, z139, z140, z141, z142, z143, z144, z145, z146, z147, z148, z149, z150, z151, z152, z153, z154, z155, z156, z157, z158, s159, s160, s161, s162, s163, s164, s165, s166, s167, s168, s169, s170, s171, s172, s173, s174, s175, s176, s177, s178, s179, s180, s181, s182, s183, s184, s185, s186, s187, s188, s189, s190, s191, s192, s193, s194, s195, s196, s197, s198, s199, s200, s201, s202, s203, s204, s205, s206, s207, s208, s209, s210, s211, s212, s213, s214, s215, s216, s217, s218], defers := [] }) (hlow : Below w0.heap.size w0 W) (hkp : Blk W bp #[.slice o1 n1 c1, .slice o2 n2 c2] 24) (hkq : Blk W bq #[.slice o3 n3 c3, .slice o4 n4 c4] 24) (hkm : Blk W bm #[m0, m1, m2, m3, m4, .int .i64 (kk : Int), m6, m7] 26) (hl1 : n1 ≤ n3) (hl2 : n2 ≤ n4) (hl3 : n3 ≤ c3) (hl4 : n4 ≤ c4) (hl5 : n1 ≤ 100000) (hl6 : n2 ≤ 100000) (hsum : n1 + n2 = kk)
    (l1 l2 : List Pr) (HE : Hid (∀ (v1 v2 : Value) (l : List Pr) (X : World), SegP X v1 l → SegP X v2 l → Calls Try.prog 27 #[v1, v2] X fun e w' => e = .returned (.bool true) ∧ Gr X w'))
    (HP1 : Hid (∀ W, Below w0.heap.size w0 W → SegP W (.slice o1 n1 c1) l1)) (HP2 : Hid (∀ W, Below w0.heap.size w0 W → SegP W (.slice o2 n2 c2) l2)) (HQ1 : Hid (∀ W, Below w0.heap.size w0 W → SegP W (.slice o3 n1 c3) l1)) (HQ2 : Hid (∀ W, Below w0.heap.size w0 W → SegP W (.slice o4 n2 c4) l2))
    (hQ : ∀ L t107 t108 t109 t110 t111 t112 t113 t114 t115 t116 t117 t118 t119 t120 t121 t122 t123 t124 t125 t126 t127 t128 t129 t130 t131 t132 t133 t134 t135 t136 t137 t138 t139 t140 t141 t142 t143 t144 t145 t146 t147 t148 t149 t150 t151 t152 t153 t154 t155 t156 t157 t158 X, (∀ i, i < 52 → L i = true) → MRI w0 bp bq bm kk o1 n1 c1 o2 n2 c2 o3 n3 c3 o4 n4 c4 m0 m1 m2 m3 m4 m6 m7 s0 s1 s2 s3 s4 s5 s6 s7 s8 s9 s10 s11 s12 s13 s14 s15 s16 s18 s19 s22 s23 s24 s25 s26 s27 s28 s29 s30 s31 s32 s33 s34 s35 s36 s37 s38 s39 s40 s41 s42 s43 s44 s45 s46 s47 s48 s49 s50 s51 s52 s53 s54 s55 s56 s57 s58 s59 s60 s61 s62 s63 s64 s65 s66 s67 s68 s69 s70 s71 s72 s73 s74 s75 s76 s77 s78 s79 s80 s81 s82 s83 s84 s85 s86 s87 s88 s89 s90 s91 s92 s93 s94 s95 s96 s97 s98 s99 s100 s101 s102 s103 s104 s105 s106 s159 s160 s161 s162 s163 s164 s165 s166 s167 s168 s169 s170 s171 s172 s173 s174 s175 s176 s177 s178 s179 s180 s181 s182 s183 s184 s185 s186 s187 s188 s189 s190 s191 s192 s193 s194 s195 s196 s197 s198 s199 s200 s201 s202 s203 s204 s205 s206 s207 s208 s209 s210 s211 s212 s213 s214 s215 s216 s217 s218 L X t107 t108 t109 t110 t111 t112 t113 t114 t115 t116 t117 t118 t119 t120 t121 t122 t123 t124 t125 t126 t127 t128 t129 t130 t131 t132 t133 t134 t135 t136 t137 t138 t139 t140 t141 t142 t143 t144 t145 t146 t147 t148 t149 t150 t151 t152 t153 t154 t155 t156 t157 t158 → Q .normal { tmps := #[s0, s1, s2, s3, s4, s5, s6, s7, s8, s9, s10, s11, s12, s13, s14, s15, s16, .pointer (some ⟨bm, 0, none⟩), s18, s19, .pointer (some ⟨bp, 0, none⟩), .pointer (some ⟨bq, 0, none⟩), s22, s23, s24, s25, s26, s27, s28, s29, s30, s31, s32, s33, s34, s35, s36, s37, s38, s39, s40, s41, s42, s43, s44, s45, s46, s47, s48, s49, s50, s51, s52, s53, s54, s55, s56, s57, s58, s59, s60, s61, s62, s63, s64, s65, s66, s67, s68, s69, s70, s71, s72, s73, s74, s75, s76, s77, s78, s79, s80, s81, s82, s83, s84, s85, s86, s87, s88, s89, s90, s91, s92, s93, s94, s95, s96, s97, s98, s99, s100, s101, s102, s103, s104, s105, s106, t107, t108, t109, t110, t111, t112, t113, t114, t115, t116, t117, t118, t119, t120, t121, t122, t123, t124, t125, t126, t127, t128, t129, t130, t131, t132, t133, t134, t135, t136, t137, t138, t139, t140, t141, t142, t143, t144, t145, t146, t147, t148, t149, t150, t151, t152, t153, t154, t155, t156, t157, t158, s159, s160, s161, s162, s163, s164, s165, s166, s167, s168, s169, s170, s171, s172, s173, s174, s175, s176, s177, s178, s179, s180, s181, s182, s183, s184, s185, s186, s187, s188, s189, s190, s191, s192, s193, s194, s195, s196, s197, s198, s199, s200, s201, s202, s203, s204, s205, s206, s207, s208, s209, s210, s211, s212, s213, s214, s215, s216, s217, s218], defers := [] } X) :
    (Code.region 21 #[{ dst := some 107, op := Op.fieldAddr 24 (Operand.tmp 20) 0, type := 0, pos := "outright.go:56", after := #[], guard := none }, { dst := some 108, op := Op.load 22 (Operand.tmp 107), type := 22, pos := "outright.go:56", after := #[{ on := 0, ground := Ground.data }], guard := none }, { dst := some 109, op := Op.call { callee := Callee.builtin Builtin.len, args := #[Operand.tmp 108], argTypes := #[22] }, type := 3, pos := "outright.go:56", after := #[{ on := 1, ground := Ground.data }], guard := none }, { dst := some 110, op := Op.fieldAddr 24 (Operand.tmp 21) 0, type := 0, pos := "outright.go:56", after := #[], guard := none }, { dst := some 111, op := Op.load 22 (Operand.tmp 110), type := 22, pos := "outright.go:56", after := #[{ on := 3, ground := Ground.data }], guard := none }, { dst := some 112, op := Op.call { callee := Callee.builtin Builtin.len, args := #[Operand.tmp 111], argTypes := #[22] }, type := 3, pos := "outright.go:56", after := #[{ on := 4, ground := Ground.data }], guard := none }, { dst := some 113, op := Op.binOp BinOp.gtr 3 (Operand.tmp 109) (Operand.tmp 112) 3, type := 4, pos := "outright.go:56", after := #[{ on := 2, ground := Ground.data }, { on := 5, ground := Ground.data }], guard := none }, { dst := some 114, op := Op.move (Operand.tmp 113), type := 4, pos := "outright.go:56", after := #[{ on := 6, ground := Ground.data }], guard := none }, { dst := some 115, op := Op.fieldAddr 24 (Operand.tmp 20) 1, type := 0, pos := "outright.go:56", after := #[{ on := 7, ground := Ground.guard }], guard := some (7, false) }, { dst := some 116, op := Op.load 22 (Operand.tmp 115), type := 22, pos := "outright.go:56", after := #[{ on := 8, ground := Ground.data }, { on := 7, ground := Ground.guard }], guard := some (7, false) }, { dst := some 117, op := Op.call { callee := Callee.builtin Builtin.len, args := #[Operand.tmp 116], argTypes := #[22] }, type := 3, pos := "outright.go:56", after := #[{ on := 9, ground := Ground.data }, { on := 7, ground := Ground.guard }], guard := some (7, false) }, { dst := some 118, op := Op.fieldAddr 24 (Operand.tmp 21) 1, type := 0, pos := "outright.go:56", after := #[{ on := 7, ground := Ground.guard }], guard := some (7, false) }, { dst := some 119, op := Op.load 22 (Operand.tmp 118), type := 22, pos := "outright.go:56", after := #[{ on := 11, ground := Ground.data }, { on := 7, ground := Ground.guard }], guard := some (7, false) }, { dst := some 120, op := Op.call { callee := Callee.builtin Builtin.len, args := #[Operand.tmp 119], argTypes := #[22] }, type := 3, pos := "outright.go:56", after := #[{ on := 12, ground := Ground.data }, { on := 7, ground := Ground.guard }], guard := some (7, false) }, { dst := some 121, op := Op.binOp BinOp.gtr 3 (Operand.tmp 117) (Operand.tmp 120) 3, type := 4, pos := "outright.go:56", after := #[{ on := 10, ground := Ground.data }, { on := 13, ground := Ground.data }, { on := 7, ground := Ground.guard }], guard := some (7, false) }, { dst := some 122, op := Op.pick (Operand.tmp 114) (Operand.const (Value.bool true)) (Operand.tmp 121), type := 4, pos := "outright.go:56", after := #[{ on := 7, ground := Ground.data }, { on := 14, ground := Ground.data }], guard := none }, { dst := some 123, op := Op.move (Operand.tmp 122), type := 4, pos := "outright.go:56", after := #[{ on := 15, ground := Ground.data }, { on := 7, ground := Ground.chain }], guard := none }, { dst := some 124, op := Op.fieldAddr 24 (Operand.tmp 20) 0, type := 0, pos := "outright.go:56", after := #[{ on := 16, ground := Ground.guard }], guard := some (16, false) }, { dst := some 125, op := Op.load 22 (Operand.tmp 124), type := 22, pos := "outright.go:56", after := #[{ on := 17, ground := Ground.data }, { on := 16, ground := Ground.guard }], guard := some (16, false) }, { dst := some 126, op := Op.fieldAddr 24 (Operand.tmp 21) 0, type := 0, pos := "outright.go:56", after := #[{ on := 16, ground := Ground.guard }], guard := some (16, false) }, { dst := some 127, op := Op.load 22 (Operand.tmp 126), type := 22, pos := "outright.go:56", after := #[{ on := 19, ground := Ground.data }, { on := 16, ground := Ground.guard }], guard := some (16, false) }, { dst := some 128, op := Op.fieldAddr 24 (Operand.tmp 20) 0, type := 0, pos := "outright.go:56", after := #[{ on := 16, ground := Ground.guard }], guard := some (16, false) }, { dst := some 129, op := Op.load 22 (Operand.tmp 128), type := 22, pos := "outright.go:56", after := #[{ on := 21, ground := Ground.data }, { on := 16, ground := Ground.guard }], guard := some (16, false) }, { dst := some 130, op := Op.call { callee := Callee.builtin Builtin.len, args := #[Operand.tmp 129], argTypes := #[22] }, type := 3, pos := "outright.go:56", after := #[{ on := 22, ground := Ground.data }, { on := 16, ground := Ground.guard }], guard := some (16, false) }, { dst := some 131, op := Op.slice 22 (Operand.tmp 127) none (some (Operand.tmp 130)) none, type := 22, pos := "outright.go:56", after := #[{ on := 20, ground := Ground.data }, { on := 23, ground := Ground.data }, { on := 16, ground := Ground.guard }], guard := some (16, false) }, { dst := some 132, op := Op.call { callee := Callee.value (Operand.func 27), args := #[Operand.tmp 125, Operand.tmp 131], argTypes := #[22, 22] }, type := 4, pos := "outright.go:56", after := #[{ on := 18, ground := Ground.data }, { on := 24, ground := Ground.data }, { on := 16, ground := Ground.chain }, { on := 16, ground := Ground.guard }], guard := some (16, false) }, { dst := some 133, op := Op.unOp UnOp.not 4 (Operand.tmp 132), type := 4, pos := "outright.go:56", after := #[{ on := 25, ground := Ground.data }, { on := 16, ground := Ground.guard }], guard := some (16, false) }, { dst := some 134, op := Op.pick (Operand.tmp 123) (Operand.const (Value.bool true)) (Operand.tmp 133), type := 4, pos := "outright.go:56", after := #[{ on := 16, ground := Ground.data }, { on := 26, ground := Ground.data }], guard := none }, { dst := some 135, op := Op.move (Operand.tmp 134), type := 4, pos := "outright.go:56", after := #[{ on := 27, ground := Ground.data }, { on := 25, ground := Ground.chain }], guard := none }, { dst := some 136, op := Op.fieldAddr 24 (Operand.tmp 20) 1, type := 0, pos := "outright.go:56", after := #[{ on := 28, ground := Ground.guard }], guard := some (28, false) }, { dst := some 137, op := Op.load 22 (Operand.tmp 136), type := 22, pos := "outright.go:56", after := #[{ on := 29, ground := Ground.data }, { on := 28, ground := Ground.guard }], guard := some (28, false) }, { dst := some 138, op := Op.fieldAddr 24 (Operand.tmp 21) 1, type := 0, pos := "outright.go:56", after := #[{ on := 28, ground := Ground.guard }], guard := some (28, false) }, { dst := some 139, op := Op.load 22 (Operand.tmp 138), type := 22, pos := "outright.go:56", after := #[{ on := 31, ground := Ground.data }, { on := 28, ground := Ground.guard }], guard := some (28, false) }, { dst := some 140, op := Op.fieldAddr 24 (Operand.tmp 20) 1, type := 0, pos := "outright.go:56", after := #[{ on := 28, ground := Ground.guard }], guard := some (28, false) }, { dst := some 141, op := Op.load 22 (Operand.tmp 140), type := 22, pos := "outright.go:56", after := #[{ on := 33, ground := Ground.data }, { on := 28, ground := Ground.guard }], guard := some (28, false) }, { dst := some 142, op := Op.call { callee := Callee.builtin Builtin.len, args := #[Operand.tmp 141], argTypes := #[22] }, type := 3, pos := "outright.go:56", after := #[{ on := 34, ground := Ground.data }, { on := 28, ground := Ground.guard }], guard := some (28, false) }, { dst := some 143, op := Op.slice 22 (Operand.tmp 139) none (some (Operand.tmp 142)) none, type := 22, pos := "outright.go:56", after := #[{ on := 32, ground := Ground.data }, { on := 35, ground := Ground.data }, { on := 28, ground := Ground.guard }], guard := some (28, false) }, { dst := some 144, op := Op.call { callee := Callee.value (Operand.func 27), args := #[Operand.tmp 137, Operand.tmp 143], argTypes := #[22, 22] }, type := 4, pos := "outright.go:56", after := #[{ on := 30, ground := Ground.data }, { on := 36, ground := Ground.data }, { on := 28, ground := Ground.chain }, { on := 28, ground := Ground.guard }], guard := some (28, false) }, { dst := some 145, op := Op.unOp UnOp.not 4 (Operand.tmp 144), type := 4, pos := "outright.go:56", after := #[{ on := 37, ground := Ground.data }, { on := 28, ground := Ground.guard }], guard := some (28, false) }, { dst := some 146, op := Op.pick (Operand.tmp 135) (Operand.const (Value.bool true)) (Operand.tmp 145), type := 4, pos := "outright.go:56", after := #[{ on := 28, ground := Ground.data }, { on := 38, ground := Ground.data }], guard := none }, { dst := some 147, op := Op.move (Operand.tmp 146), type := 4, pos := "outright.go:56", after := #[{ on := 39, ground := Ground.data }, { on := 37, ground := Ground.chain }], guard := none }, { dst := some 148, op := Op.fieldAddr 24 (Operand.tmp 20) 0, type := 0, pos := "outright.go:56", after := #[{ on := 40, ground := Ground.guard }], guard := some (40, false) }, { dst := some 149, op := Op.load 22 (Operand.tmp 148), type := 22, pos := "outright.go:56", after := #[{ on := 41, ground := Ground.data }, { on := 40, ground := Ground.guard }], guard := some (40, false) }, { dst := some 150, op := Op.call { callee := Callee.builtin Builtin.len, args := #[Operand.tmp 149], argTypes := #[22] }, type := 3, pos := "outright.go:56", after := #[{ on := 42, ground := Ground.data }, { on := 40, ground := Ground.guard }], guard := some (40, false) }, { dst := some 151, op := Op.fieldAddr 24 (Operand.tmp 20) 1, type := 0, pos := "outright.go:56", after := #[{ on := 40, ground := Ground.guard }], guard := some (40, false) }, { dst := some 152, op := Op.load 22 (Operand.tmp 151), type := 22, pos := "outright.go:56", after := #[{ on := 44, ground := Ground.data }, { on := 40, ground := Ground.guard }], guard := some (40, false) }, { dst := some 153, op := Op.call { callee := Callee.builtin Builtin.len, args := #[Operand.tmp 152], argTypes := #[22] }, type := 3, pos := "outright.go:56", after := #[{ on := 45, ground := Ground.data }, { on := 40, ground := Ground.guard }], guard := some (40, false) }, { dst := some 154, op := Op.binOp BinOp.add 3 (Operand.tmp 150) (Operand.tmp 153) 3, type := 3, pos := "outright.go:56", after := #[{ on := 43, ground := Ground.data }, { on := 46, ground := Ground.data }, { on := 40, ground := Ground.guard }], guard := some (40, false) }, { dst := some 155, op := Op.fieldAddr 26 (Operand.tmp 17) 3, type := 0, pos := "outright.go:56", after := #[{ on := 40, ground := Ground.guard }], guard := some (40, false) }, { dst := some 156, op := Op.load 3 (Operand.tmp 155), type := 3, pos := "outright.go:56", after := #[{ on := 48, ground := Ground.data }, { on := 40, ground := Ground.guard }], guard := some (40, false) }, { dst := some 157, op := Op.binOp BinOp.neq 3 (Operand.tmp 154) (Operand.tmp 156) 3, type := 4, pos := "outright.go:56", after := #[{ on := 47, ground := Ground.data }, { on := 49, ground := Ground.data }, { on := 40, ground := Ground.guard }], guard := some (40, false) }, { dst := some 158, op := Op.pick (Operand.tmp 147) (Operand.const (Value.bool true)) (Operand.tmp 157), type := 4, pos := "outright.go:56", after := #[{ on := 40, ground := Ground.data }, { on := 50, ground := Ground.data }], guard := none }] true).wp Try.prog Q a W := by
  have hmix := mixed
  refine wp_region_inv hmix (Inv := MRV w0 bp bq bm kk o1 n1 c1 o2 n2 c2 o3 n3 c3 o4 n4 c4 m0 m1 m2 m3 m4 m6 m7 s0 s1 s2 s3 s4 s5 s6 s7 s8 s9 s10 s11 s12 s13 s14 s15 s16 s18 s19 s22 s23 s24 s25 s26 s27 s28 s29 s30 s31 s32 s33 s34 s35 s36 s37 s38 s39 s40 s41 s42 s43 s44 s45 s46 s47 s48 s49 s50 s51 s52 s53 s54 s55 s56 s57 s58 s59 s60 s61 s62 s63 s64 s65 s66 s67 s68 s69 s70 s71 s72 s73 s74 s75 s76 s77 s78 s79 s80 s81 s82 s83 s84 s85 s86 s87 s88 s89 s90 s91 s92 s93 s94 s95 s96 s97 s98 s99 s100 s101 s102 s103 s104 s105 s106 s159 s160 s161 s162 s163 s164 s165 s166 s167 s168 s169 s170 s171 s172 s173 s174 s175 s176 s177 s178 s179 s180 s181 s182 s183 s184 s185 s186 s187 s188 s189 s190 s191 s192 s193 s194 s195 s196 s197 s198 s199 s200 s201 s202 s203 s204 s205 s206 s207 s208 s209 s210 s211 s212 s213 s214 s215 s216 s217 s218) (by kernel_rfl) ?h0 ?hstep ?hdone
  case h0 =>
    subst ha
    exact ⟨z107, z108, z109, z110, z111, z112, z113, z114, z115, z116, z117, z118, z119, z120, z121, z122, z123, z124, z125, z126, z127, z128, z129, z130, z131, z132, z133, z134, z135, z136, z137, z138, z139, z140, z141, z142, z143, z144, z145, z146, z147, z148, z149, z150, z151, z152, z153, z154, z155, z156, z157, z158, rfl, ⟨hlow.drew, hkp.drew, hkq.drew, hkm.drew, nofun, nofun, nofun, nofun, nofun, nofun, nofun, nofun, nofun, nofun, nofun, nofun, nofun, nofun, nofun, nofun, nofun, nofun, nofun, nofun, nofun, nofun, nofun, nofun, nofun, nofun, nofun, nofun, nofun, nofun, nofun, nofun, nofun, nofun, nofun, nofun, nofun, nofun, nofun, nofun, nofun, nofun, nofun, nofun, nofun, nofun, nofun, nofun, nofun, nofun, nofun, nofun⟩⟩
  case hdone =>
    rintro L a X ⟨t107, t108, t109, t110, t111, t112, t113, t114, t115, t116, t117, t118, t119, t120, t121, t122, t123, t124, t125, t126, t127, t128, t129, t130, t131, t132, t133, t134, t135, t136, t137, t138, t139, t140, t141, t142, t143, t144, t145, t146, t147, t148, t149, t150, t151, t152, t153, t154, t155, t156, t157, t158, rfl, h⟩ hall
    exact hQ L t107 t108 t109 t110 t111 t112 t113 t114 t115 t116 t117 t118 t119 t120 t121 t122 t123 t124 t125 t126 t127 t128 t129 t130 t131 t132 t133 t134 t135 t136 t137 t138 t139 t140 t141 t142 t143 t144 t145 t146 t147 t148 t149 t150 t151 t152 t153 t154 t155 t156 t157 t158 X hall h
  case hstep =>
    clear hQ ha
    rintro L a X i op ⟨t107, t108, t109, t110, t111, t112, t113, t114, t115, t116, t117, t118, t119, t120, t121, t122, t123, t124, t125, t126, t127, t128, t129, t130, t131, t132, t133, t134, t135, t136, t137, t138, t139, t140, t141, t142, t143, t144, t145, t146, t147, t148, t149, t150, t151, t152, t153, t154, t155, t156, t157, t158, rfl, h⟩ hL ho hp
    have hi : i < 52 := (Array.getElem?_eq_some_iff.1 ho).1
    match i, hi, hL, ho, hp with
    | 0, _, hL, ho, hp =>
      simp only [List.getElem?_toArray, List.getElem?_cons_zero, Option.some.injEq] at ho
      subst ho
      rw [if_pos (by rfl)]
      go_simp
      exact ⟨_, _, _, _, _, _, _, _, _, _, _, _, _, _, _, _, _, _, _, _, _, _, _, _, _, _, _, _, _, _, _, _, _, _, _, _, _, _, _, _, _, _, _, _, _, _, _, _, _, _, _, _, rfl, ⟨h.low, h.kp, h.kq, h.km, fun _ => rfl, h.h1, h.h2, h.h3, h.h4, h.h5, h.h6, h.h7, h.h8, h.h9, h.h10, h.h11, h.h12, h.h13, h.h14, h.h15, h.h16, h.h17, h.h18, h.h19, h.h20, h.h21, h.h22, h.h23, h.h24, h.h25, h.h26, h.h27, h.h28, h.h29, h.h30, h.h31, h.h32, h.h33, h.h34, h.h35, h.h36, h.h37, h.h38, h.h39, h.h40, h.h41, h.h42, h.h43, h.h44, h.h45, h.h46, h.h47, h.h48, h.h49, h.h50, h.h51⟩⟩
    | 1, _, hL, ho, hp =>
      simp only [List.getElem?_toArray, List.getElem?_cons_zero, List.getElem?_cons_succ, Option.some.injEq] at ho
      subst ho
      have p0 : L 0 = true := hp ⟨0, .data⟩ (by simp) rfl
      obtain rfl := h.h0 p0
      rw [if_pos (by rfl)]
      have ckp0 := h.kp.cell 0
      have lkp := h.kp.lt
      simp only [List.getElem?_toArray, List.getElem?_cons_zero] at ckp0
      go_simp
      exact ⟨_, _, _, _, _, _, _, _, _, _, _, _, _, _, _, _, _, _, _, _, _, _, _, _, _, _, _, _, _, _, _, _, _, _, _, _, _, _, _, _, _, _, _, _, _, _, _, _, _, _, _, _, rfl, ⟨h.low, h.kp, h.kq, h.km, h.h0, fun _ => rfl, h.h2, h.h3, h.h4, h.h5, h.h6, h.h7, h.h8, h.h9, h.h10, h.h11, h.h12, h.h13, h.h14, h.h15, h.h16, h.h17, h.h18, h.h19, h.h20, h.h21, h.h22, h.h23, h.h24, h.h25, h.h26, h.h27, h.h28, h.h29, h.h30, h.h31, h.h32, h.h33, h.h34, h.h35, h.h36, h.h37, h.h38, h.h39, h.h40, h.h41, h.h42, h.h43, h.h44, h.h45, h.h46, h.h47, h.h48, h.h49, h.h50, h.h51⟩⟩
    | 2, _, hL, ho, hp =>
      simp only [List.getElem?_toArray, List.getElem?_cons_zero, List.getElem?_cons_succ, Option.some.injEq] at ho
      subst ho
      have p1 : L 1 = true := hp ⟨1, .data⟩ (by simp) rfl
      obtain rfl := h.h1 p1
      rw [if_pos (by rfl)]
      go_simp
      exact ⟨_, _, _, _, _, _, _, _, _, _, _, _, _, _, _, _, _, _, _, _, _, _, _, _, _, _, _, _, _, _, _, _, _, _, _, _, _, _, _, _, _, _, _, _, _, _, _, _, _, _, _, _, rfl, ⟨h.low, h.kp, h.kq, h.km, h.h0, h.h1, fun _ => rfl, h.h3, h.h4, h.h5, h.h6, h.h7, h.h8, h.h9, h.h10, h.h11, h.h12, h.h13, h.h14, h.h15, h.h16, h.h17, h.h18, h.h19, h.h20, h.h21, h.h22, h.h23, h.h24, h.h25, h.h26, h.h27, h.h28, h.h29, h.h30, h.h31, h.h32, h.h33, h.h34, h.h35, h.h36, h.h37, h.h38, h.h39, h.h40, h.h41, h.h42, h.h43, h.h44, h.h45, h.h46, h.h47, h.h48, h.h49, h.h50, h.h51⟩⟩
    | 3, _, hL, ho, hp =>
      simp only [List.getElem?_toArray, List.getElem?_cons_zero, List.getElem?_cons_succ, Option.some.injEq] at ho
      subst ho
      rw [if_pos (by rfl)]
      go_simp
      exact ⟨_, _, _, _, _, _, _, _, _, _, _, _, _, _, _, _, _, _, _, _, _, _, _, _, _, _, _, _, _, _, _, _, _, _, _, _, _, _, _, _, _, _, _, _, _, _, _, _, _, _, _, _, rfl, ⟨h.low, h.kp, h.kq, h.km, h.h0, h.h1, h.h2, fun _ => rfl, h.h4, h.h5, h.h6, h.h7, h.h8, h.h9, h.h10, h.h11, h.h12, h.h13, h.h14, h.h15, h.h16, h.h17, h.h18, h.h19, h.h20, h.h21, h.h22, h.h23, h.h24, h.h25, h.h26, h.h27, h.h28, h.h29, h.h30, h.h31, h.h32, h.h33, h.h34, h.h35, h.h36, h.h37, h.h38, h.h39, h.h40, h.h41, h.h42, h.h43, h.h44, h.h45, h.h46, h.h47, h.h48, h.h49, h.h50, h.h51⟩⟩
    | 4, _, hL, ho, hp =>
      simp only [List.getElem?_toArray, List.getElem?_cons_zero, List.getElem?_cons_succ, Option.some.injEq] at ho
      subst ho
      have p3 : L 3 = true := hp ⟨3, .data⟩ (by simp) rfl
      obtain rfl := h.h3 p3
      rw [if_pos (by rfl)]
      have ckq0 := h.kq.cell 0
      have lkq := h.kq.lt
      simp only [List.getElem?_toArray, List.getElem?_cons_zero] at ckq0
      go_simp
      exact ⟨_, _, _, _, _, _, _, _, _, _, _, _, _, _, _, _, _, _, _, _, _, _, _, _, _, _, _, _, _, _, _, _, _, _, _, _, _, _, _, _, _, _, _, _, _, _, _, _, _, _, _, _, rfl, ⟨h.low, h.kp, h.kq, h.km, h.h0, h.h1, h.h2, h.h3, fun _ => rfl, h.h5, h.h6, h.h7, h.h8, h.h9, h.h10, h.h11, h.h12, h.h13, h.h14, h.h15, h.h16, h.h17, h.h18, h.h19, h.h20, h.h21, h.h22, h.h23, h.h24, h.h25, h.h26, h.h27, h.h28, h.h29, h.h30, h.h31, h.h32, h.h33, h.h34, h.h35, h.h36, h.h37, h.h38, h.h39, h.h40, h.h41, h.h42, h.h43, h.h44, h.h45, h.h46, h.h47, h.h48, h.h49, h.h50, h.h51⟩⟩
    | 5, _, hL, ho, hp =>
      simp only [List.getElem?_toArray, List.getElem?_cons_zero, List.getElem?_cons_succ, Option.some.injEq] at ho
      subst ho
      have p4 : L 4 = true := hp ⟨4, .data⟩ (by simp) rfl
      obtain rfl := h.h4 p4
      rw [if_pos (by rfl)]
      go_simp
      exact ⟨_, _, _, _, _, _, _, _, _, _, _, _, _, _, _, _, _, _, _, _, _, _, _, _, _, _, _, _, _, _, _, _, _, _, _, _, _, _, _, _, _, _, _, _, _, _, _, _, _, _, _, _, rfl, ⟨h.low, h.kp, h.kq, h.km, h.h0, h.h1, h.h2, h.h3, h.h4, fun _ => rfl, h.h6, h.h7, h.h8, h.h9, h.h10, h.h11, h.h12, h.h13, h.h14, h.h15, h.h16, h.h17, h.h18, h.h19, h.h20, h.h21, h.h22, h.h23, h.h24, h.h25, h.h26, h.h27, h.h28, h.h29, h.h30, h.h31, h.h32, h.h33, h.h34, h.h35, h.h36, h.h37, h.h38, h.h39, h.h40, h.h41, h.h42, h.h43, h.h44, h.h45, h.h46, h.h47, h.h48, h.h49, h.h50, h.h51⟩⟩
    | 6, _, hL, ho, hp =>
      simp only [List.getElem?_toArray, List.getElem?_cons_zero, List.getElem?_cons_succ, Option.some.injEq] at ho
      subst ho
      have p2 : L 2 = true := hp ⟨2, .data⟩ (by simp) rfl
      obtain rfl := h.h2 p2
      have p5 : L 5 = true := hp ⟨5, .data⟩ (by simp) rfl
      obtain rfl := h.h5 p5
      rw [if_pos (by rfl)]
      have f1 : decide (n3 < n1) = false := decide_eq_false (by omega)
      have f2 : decide ((n3 : Int) < (n1 : Int)) = false := decide_eq_false (by omega)
      go_simp
      exact ⟨_, _, _, _, _, _, _, _, _, _, _, _, _, _, _, _, _, _, _, _, _, _, _, _, _, _, _, _, _, _, _, _, _, _, _, _, _, _, _, _, _, _, _, _, _, _, _, _, _, _, _, _, rfl, ⟨h.low, h.kp, h.kq, h.km, h.h0, h.h1, h.h2, h.h3, h.h4, h.h5, fun _ => rfl, h.h7, h.h8, h.h9, h.h10, h.h11, h.h12, h.h13, h.h14, h.h15, h.h16, h.h17, h.h18, h.h19, h.h20, h.h21, h.h22, h.h23, h.h24, h.h25, h.h26, h.h27, h.h28, h.h29, h.h30, h.h31, h.h32, h.h33, h.h34, h.h35, h.h36, h.h37, h.h38, h.h39, h.h40, h.h41, h.h42, h.h43, h.h44, h.h45, h.h46, h.h47, h.h48, h.h49, h.h50, h.h51⟩⟩
    | 7, _, hL, ho, hp =>
      simp only [List.getElem?_toArray, List.getElem?_cons_zero, List.getElem?_cons_succ, Option.some.injEq] at ho
      subst ho
      have p6 : L 6 = true := hp ⟨6, .data⟩ (by simp) rfl
      obtain rfl := h.h6 p6
      rw [if_pos (by rfl)]
      go_simp
      exact ⟨_, _, _, _, _, _, _, _, _, _, _, _, _, _, _, _, _, _, _, _, _, _, _, _, _, _, _, _, _, _, _, _, _, _, _, _, _, _, _, _, _, _, _, _, _, _, _, _, _, _, _, _, rfl, ⟨h.low, h.kp, h.kq, h.km, h.h0, h.h1, h.h2, h.h3, h.h4, h.h5, h.h6, fun _ => rfl, h.h8, h.h9, h.h10, h.h11, h.h12, h.h13, h.h14, h.h15, h.h16, h.h17, h.h18, h.h19, h.h20, h.h21, h.h22, h.h23, h.h24, h.h25, h.h26, h.h27, h.h28, h.h29, h.h30, h.h31, h.h32, h.h33, h.h34, h.h35, h.h36, h.h37, h.h38, h.h39, h.h40, h.h41, h.h42, h.h43, h.h44, h.h45, h.h46, h.h47, h.h48, h.h49, h.h50, h.h51⟩⟩
    | 8, _, hL, ho, hp =>
      simp only [List.getElem?_toArray, List.getElem?_cons_zero, List.getElem?_cons_succ, Option.some.injEq] at ho
      subst ho
      have p7 : L 7 = true := hp ⟨7, .guard⟩ (by simp) rfl
      obtain rfl := h.h7 p7
      rw [if_pos (by rfl)]
      go_simp
      exact ⟨_, _, _, _, _, _, _, _, _, _, _, _, _, _, _, _, _, _, _, _, _, _, _, _, _, _, _, _, _, _, _, _, _, _, _, _, _, _, _, _, _, _, _, _, _, _, _, _, _, _, _, _, rfl, ⟨h.low, h.kp, h.kq, h.km, h.h0, h.h1, h.h2, h.h3, h.h4, h.h5, h.h6, h.h7, fun _ => rfl, h.h9, h.h10, h.h11, h.h12, h.h13, h.h14, h.h15, h.h16, h.h17, h.h18, h.h19, h.h20, h.h21, h.h22, h.h23, h.h24, h.h25, h.h26, h.h27, h.h28, h.h29, h.h30, h.h31, h.h32, h.h33, h.h34, h.h35, h.h36, h.h37, h.h38, h.h39, h.h40, h.h41, h.h42, h.h43, h.h44, h.h45, h.h46, h.h47, h.h48, h.h49, h.h50, h.h51⟩⟩
    | 9, _, hL, ho, hp =>
      simp only [List.getElem?_toArray, List.getElem?_cons_zero, List.getElem?_cons_succ, Option.some.injEq] at ho
      subst ho
      have p7 : L 7 = true := hp ⟨7, .guard⟩ (by simp) rfl
      obtain rfl := h.h7 p7
      have p8 : L 8 = true := hp ⟨8, .data⟩ (by simp) rfl
      obtain rfl := h.h8 p8
      rw [if_pos (by rfl)]
      have ckp1 := h.kp.cell 1
      have lkp := h.kp.lt
      simp only [List.getElem?_toArray, List.getElem?_cons_zero, List.getElem?_cons_succ] at ckp1
      go_simp
      exact ⟨_, _, _, _, _, _, _, _, _, _, _, _, _, _, _, _, _, _, _, _, _, _, _, _, _, _, _, _, _, _, _, _, _, _, _, _, _, _, _, _, _, _, _, _, _, _, _, _, _, _, _, _, rfl, ⟨h.low, h.kp, h.kq, h.km, h.h0, h.h1, h.h2, h.h3, h.h4, h.h5, h.h6, h.h7, h.h8, fun _ => rfl, h.h10, h.h11, h.h12, h.h13, h.h14, h.h15, h.h16, h.h17, h.h18, h.h19, h.h20, h.h21, h.h22, h.h23, h.h24, h.h25, h.h26, h.h27, h.h28, h.h29, h.h30, h.h31, h.h32, h.h33, h.h34, h.h35, h.h36, h.h37, h.h38, h.h39, h.h40, h.h41, h.h42, h.h43, h.h44, h.h45, h.h46, h.h47, h.h48, h.h49, h.h50, h.h51⟩⟩
    | 10, _, hL, ho, hp =>
      simp only [List.getElem?_toArray, List.getElem?_cons_zero, List.getElem?_cons_succ, Option.some.injEq] at ho
      subst ho
      have p7 : L 7 = true := hp ⟨7, .guard⟩ (by simp) rfl
      obtain rfl := h.h7 p7
      have p9 : L 9 = true := hp ⟨9, .data⟩ (by simp) rfl
      obtain rfl := h.h9 p9
      rw [if_pos (by rfl)]
      go_simp
      exact ⟨_, _, _, _, _, _, _, _, _, _, _, _, _, _, _, _, _, _, _, _, _, _, _, _, _, _, _, _, _, _, _, _, _, _, _, _, _, _, _, _, _, _, _, _, _, _, _, _, _, _, _, _, rfl, ⟨h.low, h.kp, h.kq, h.km, h.h0, h.h1, h.h2, h.h3, h.h4, h.h5, h.h6, h.h7, h.h8, h.h9, fun _ => rfl, h.h11, h.h12, h.h13, h.h14, h.h15, h.h16, h.h17, h.h18, h.h19, h.h20, h.h21, h.h22, h.h23, h.h24, h.h25, h.h26, h.h27, h.h28, h.h29, h.h30, h.h31, h.h32, h.h33, h.h34, h.h35, h.h36, h.h37, h.h38, h.h39, h.h40, h.h41, h.h42, h.h43, h.h44, h.h45, h.h46, h.h47, h.h48, h.h49, h.h50, h.h51⟩⟩
    | 11, _, hL, ho, hp =>
      simp only [List.getElem?_toArray, List.getElem?_cons_zero, List.getElem?_cons_succ, Option.some.injEq] at ho
      subst ho
      have p7 : L 7 = true := hp ⟨7, .guard⟩ (by simp) rfl
      obtain rfl := h.h7 p7
      rw [if_pos (by rfl)]
      go_simp
      exact ⟨_, _, _, _, _, _, _, _, _, _, _, _, _, _, _, _, _, _, _, _, _, _, _, _, _, _, _, _, _, _, _, _, _, _, _, _, _, _, _, _, _, _, _, _, _, _, _, _, _, _, _, _, rfl, ⟨h.low, h.kp, h.kq, h.km, h.h0, h.h1, h.h2, h.h3, h.h4, h.h5, h.h6, h.h7, h.h8, h.h9, h.h10, fun _ => rfl, h.h12, h.h13, h.h14, h.h15, h.h16, h.h17, h.h18, h.h19, h.h20, h.h21, h.h22, h.h23, h.h24, h.h25, h.h26, h.h27, h.h28, h.h29, h.h30, h.h31, h.h32, h.h33, h.h34, h.h35, h.h36, h.h37, h.h38, h.h39, h.h40, h.h41, h.h42, h.h43, h.h44, h.h45, h.h46, h.h47, h.h48, h.h49, h.h50, h.h51⟩⟩
    | 12, _, hL, ho, hp =>
      simp only [List.getElem?_toArray, List.getElem?_cons_zero, List.getElem?_cons_succ, Option.some.injEq] at ho
      subst ho
      have p7 : L 7 = true := hp ⟨7, .guard⟩ (by simp) rfl
      obtain rfl := h.h7 p7
      have p11 : L 11 = true := hp ⟨11, .data⟩ (by simp) rfl
      obtain rfl := h.h11 p11
      rw [if_pos (by rfl)]
      have ckq1 := h.kq.cell 1
      have lkq := h.kq.lt
      simp only [List.getElem?_toArray, List.getElem?_cons_zero, List.getElem?_cons_succ] at ckq1
      go_simp
      exact ⟨_, _, _, _, _, _, _, _, _, _, _, _, _, _, _, _, _, _, _, _, _, _, _, _, _, _, _, _, _, _, _, _, _, _, _, _, _, _, _, _, _, _, _, _, _, _, _, _, _, _, _, _, rfl, ⟨h.low, h.kp, h.kq, h.km, h.h0, h.h1, h.h2, h.h3, h.h4, h.h5, h.h6, h.h7, h.h8, h.h9, h.h10, h.h11, fun _ => rfl, h.h13, h.h14, h.h15, h.h16, h.h17, h.h18, h.h19, h.h20, h.h21, h.h22, h.h23, h.h24, h.h25, h.h26, h.h27, h.h28, h.h29, h.h30, h.h31, h.h32, h.h33, h.h34, h.h35, h.h36, h.h37, h.h38, h.h39, h.h40, h.h41, h.h42, h.h43, h.h44, h.h45, h.h46, h.h47, h.h48, h.h49, h.h50, h.h51⟩⟩
    | 13, _, hL, ho, hp =>
      simp only [List.getElem?_toArray, List.getElem?_cons_zero, List.getElem?_cons_succ, Option.some.injEq] at ho
      subst ho
      have p7 : L 7 = true := hp ⟨7, .guard⟩ (by simp) rfl
      obtain rfl := h.h7 p7
      have p12 : L 12 = true := hp ⟨12, .data⟩ (by simp) rfl
      obtain rfl := h.h12 p12
      rw [if_pos (by rfl)]
      go_simp
      exact ⟨_, _, _, _, _, _, _, _, _, _, _, _, _, _, _, _, _, _, _, _, _, _, _, _, _, _, _, _, _, _, _, _, _, _, _, _, _, _, _, _, _, _, _, _, _, _, _, _, _, _, _, _, rfl, ⟨h.low, h.kp, h.kq, h.km, h.h0, h.h1, h.h2, h.h3, h.h4, h.h5, h.h6, h.h7, h.h8, h.h9, h.h10, h.h11, h.h12, fun _ => rfl, h.h14, h.h15, h.h16, h.h17, h.h18, h.h19, h.h20, h.h21, h.h22, h.h23, h.h24, h.h25, h.h26, h.h27, h.h28, h.h29, h.h30, h.h31, h.h32, h.h33, h.h34, h.h35, h.h36, h.h37, h.h38, h.h39, h.h40, h.h41, h.h42, h.h43, h.h44, h.h45, h.h46, h.h47, h.h48, h.h49, h.h50, h.h51⟩⟩
    | 14, _, hL, ho, hp =>
      simp only [List.getElem?_toArray, List.getElem?_cons_zero, List.getElem?_cons_succ, Option.some.injEq] at ho
      subst ho
      have p7 : L 7 = true := hp ⟨7, .guard⟩ (by simp) rfl
      obtain rfl := h.h7 p7
      have p10 : L 10 = true := hp ⟨10, .data⟩ (by simp) rfl
      obtain rfl := h.h10 p10
      have p13 : L 13 = true := hp ⟨13, .data⟩ (by simp) rfl
      obtain rfl := h.h13 p13
      rw [if_pos (by rfl)]
      have f1 : decide (n4 < n2) = false := decide_eq_false (by omega)
      have f2 : decide ((n4 : Int) < (n2 : Int)) = false := decide_eq_false (by omega)
      go_simp
      exact ⟨_, _, _, _, _, _, _, _, _, _, _, _, _, _, _, _, _, _, _, _, _, _, _, _, _, _, _, _, _, _, _, _, _, _, _, _, _, _, _, _, _, _, _, _, _, _, _, _, _, _, _, _, rfl, ⟨h.low, h.kp, h.kq, h.km, h.h0, h.h1, h.h2, h.h3, h.h4, h.h5, h.h6, h.h7, h.h8, h.h9, h.h10, h.h11, h.h12, h.h13, fun _ => rfl, h.h15, h.h16, h.h17, h.h18, h.h19, h.h20, h.h21, h.h22, h.h23, h.h24, h.h25, h.h26, h.h27, h.h28, h.h29, h.h30, h.h31, h.h32, h.h33, h.h34, h.h35, h.h36, h.h37, h.h38, h.h39, h.h40, h.h41, h.h42, h.h43, h.h44, h.h45, h.h46, h.h47, h.h48, h.h49, h.h50, h.h51⟩⟩
    | 15, _, hL, ho, hp =>
      simp only [List.getElem?_toArray, List.getElem?_cons_zero, List.getElem?_cons_succ, Option.some.injEq] at ho
      subst ho
      have p7 : L 7 = true := hp ⟨7, .data⟩ (by simp) rfl
      obtain rfl := h.h7 p7
      have p14 : L 14 = true := hp ⟨14, .data⟩ (by simp) rfl
      obtain rfl := h.h14 p14
      rw [if_pos (by rfl)]
      go_simp
      exact ⟨_, _, _, _, _, _, _, _, _, _, _, _, _, _, _, _, _, _, _, _, _, _, _, _, _, _, _, _, _, _, _, _, _, _, _, _, _, _, _, _, _, _, _, _, _, _, _, _, _, _, _, _, rfl, ⟨h.low, h.kp, h.kq, h.km, h.h0, h.h1, h.h2, h.h3, h.h4, h.h5, h.h6, h.h7, h.h8, h.h9, h.h10, h.h11, h.h12, h.h13, h.h14, fun _ => rfl, h.h16, h.h17, h.h18, h.h19, h.h20, h.h21, h.h22, h.h23, h.h24, h.h25, h.h26, h.h27, h.h28, h.h29, h.h30, h.h31, h.h32, h.h33, h.h34, h.h35, h.h36, h.h37, h.h38, h.h39, h.h40, h.h41, h.h42, h.h43, h.h44, h.h45, h.h46, h.h47, h.h48, h.h49, h.h50, h.h51⟩⟩
    | 16, _, hL, ho, hp =>
      simp only [List.getElem?_toArray, List.getElem?_cons_zero, List.getElem?_cons_succ, Option.some.injEq] at ho
      subst ho
      have p15 : L 15 = true := hp ⟨15, .data⟩ (by simp) rfl
      obtain rfl := h.h15 p15
      rw [if_pos (by rfl)]
      go_simp
      exact ⟨_, _, _, _, _, _, _, _, _, _, _, _, _, _, _, _, _, _, _, _, _, _, _, _, _, _, _, _, _, _, _, _, _, _, _, _, _, _, _, _, _, _, _, _, _, _, _, _, _, _, _, _, rfl, ⟨h.low, h.kp, h.kq, h.km, h.h0, h.h1, h.h2, h.h3, h.h4, h.h5, h.h6, h.h7, h.h8, h.h9, h.h10, h.h11, h.h12, h.h13, h.h14, h.h15, fun _ => rfl, h.h17, h.h18, h.h19, h.h20, h.h21, h.h22, h.h23, h.h24, h.h25, h.h26, h.h27, h.h28, h.h29, h.h30, h.h31, h.h32, h.h33, h.h34, h.h35, h.h36, h.h37, h.h38, h.h39, h.h40, h.h41, h.h42, h.h43, h.h44, h.h45, h.h46, h.h47, h.h48, h.h49, h.h50, h.h51⟩⟩
    | 17, _, hL, ho, hp =>
      simp only [List.getElem?_toArray, List.getElem?_cons_zero, List.getElem?_cons_succ, Option.some.injEq] at ho
      subst ho
      have p16 : L 16 = true := hp ⟨16, .guard⟩ (by simp) rfl
      obtain rfl := h.h16 p16
      rw [if_pos (by rfl)]
      go_simp
      exact ⟨_, _, _, _, _, _, _, _, _, _, _, _, _, _, _, _, _, _, _, _, _, _, _, _, _, _, _, _, _, _, _, _, _, _, _, _, _, _, _, _, _, _, _, _, _, _, _, _, _, _, _, _, rfl, ⟨h.low, h.kp, h.kq, h.km, h.h0, h.h1, h.h2, h.h3, h.h4, h.h5, h.h6, h.h7, h.h8, h.h9, h.h10, h.h11, h.h12, h.h13, h.h14, h.h15, h.h16, fun _ => rfl, h.h18, h.h19, h.h20, h.h21, h.h22, h.h23, h.h24, h.h25, h.h26, h.h27, h.h28, h.h29, h.h30, h.h31, h.h32, h.h33, h.h34, h.h35, h.h36, h.h37, h.h38, h.h39, h.h40, h.h41, h.h42, h.h43, h.h44, h.h45, h.h46, h.h47, h.h48, h.h49, h.h50, h.h51⟩⟩
    | 18, _, hL, ho, hp =>
      simp only [List.getElem?_toArray, List.getElem?_cons_zero, List.getElem?_cons_succ, Option.some.injEq] at ho
      subst ho
      have p16 : L 16 = true := hp ⟨16, .guard⟩ (by simp) rfl
      obtain rfl := h.h16 p16
      have p17 : L 17 = true := hp ⟨17, .data⟩ (by simp) rfl
      obtain rfl := h.h17 p17
      rw [if_pos (by rfl)]
      have ckp0 := h.kp.cell 0
      have lkp := h.kp.lt
      simp only [List.getElem?_toArray, List.getElem?_cons_zero] at ckp0
      go_simp
      exact ⟨_, _, _, _, _, _, _, _, _, _, _, _, _, _, _, _, _, _, _, _, _, _, _, _, _, _, _, _, _, _, _, _, _, _, _, _, _, _, _, _, _, _, _, _, _, _, _, _, _, _, _, _, rfl, ⟨h.low, h.kp, h.kq, h.km, h.h0, h.h1, h.h2, h.h3, h.h4, h.h5, h.h6, h.h7, h.h8, h.h9, h.h10, h.h11, h.h12, h.h13, h.h14, h.h15, h.h16, h.h17, fun _ => rfl, h.h19, h.h20, h.h21, h.h22, h.h23, h.h24, h.h25, h.h26, h.h27, h.h28, h.h29, h.h30, h.h31, h.h32, h.h33, h.h34, h.h35, h.h36, h.h37, h.h38, h.h39, h.h40, h.h41, h.h42, h.h43, h.h44, h.h45, h.h46, h.h47, h.h48, h.h49, h.h50, h.h51⟩⟩
    | 19, _, hL, ho, hp =>
      simp only [List.getElem?_toArray, List.getElem?_cons_zero, List.getElem?_cons_succ, Option.some.injEq] at ho
      subst ho
      have p16 : L 16 = true := hp ⟨16, .guard⟩ (by simp) rfl
      obtain rfl := h.h16 p16
      rw [if_pos (by rfl)]
      go_simp
      exact ⟨_, _, _, _, _, _, _, _, _, _, _, _, _, _, _, _, _, _, _, _, _, _, _, _, _, _, _, _, _, _, _, _, _, _, _, _, _, _, _, _, _, _, _, _, _, _, _, _, _, _, _, _, rfl, ⟨h.low, h.kp, h.kq, h.km, h.h0, h.h1, h.h2, h.h3, h.h4, h.h5, h.h6, h.h7, h.h8, h.h9, h.h10, h.h11, h.h12, h.h13, h.h14, h.h15, h.h16, h.h17, h.h18, fun _ => rfl, h.h20, h.h21, h.h22, h.h23, h.h24, h.h25, h.h26, h.h27, h.h28, h.h29, h.h30, h.h31, h.h32, h.h33, h.h34, h.h35, h.h36, h.h37, h.h38, h.h39, h.h40, h.h41, h.h42, h.h43, h.h44, h.h45, h.h46, h.h47, h.h48, h.h49, h.h50, h.h51⟩⟩
    | 20, _, hL, ho, hp =>
      simp only [List.getElem?_toArray, List.getElem?_cons_zero, List.getElem?_cons_succ, Option.some.injEq] at ho
      subst ho
      have p16 : L 16 = true := hp ⟨16, .guard⟩ (by simp) rfl
      obtain rfl := h.h16 p16
      have p19 : L 19 = true := hp ⟨19, .data⟩ (by simp) rfl
      obtain rfl := h.h19 p19
      rw [if_pos (by rfl)]
      have ckq0 := h.kq.cell 0
      have lkq := h.kq.lt
      simp only [List.getElem?_toArray, List.getElem?_cons_zero] at ckq0
      go_simp
      exact ⟨_, _, _, _, _, _, _, _, _, _, _, _, _, _, _, _, _, _, _, _, _, _, _, _, _, _, _, _, _, _, _, _, _, _, _, _, _, _, _, _, _, _, _, _, _, _, _, _, _, _, _, _, rfl, ⟨h.low, h.kp, h.kq, h.km, h.h0, h.h1, h.h2, h.h3, h.h4, h.h5, h.h6, h.h7, h.h8, h.h9, h.h10, h.h11, h.h12, h.h13, h.h14, h.h15, h.h16, h.h17, h.h18, h.h19, fun _ => rfl, h.h21, h.h22, h.h23, h.h24, h.h25, h.h26, h.h27, h.h28, h.h29, h.h30, h.h31, h.h32, h.h33, h.h34, h.h35, h.h36, h.h37, h.h38, h.h39, h.h40, h.h41, h.h42, h.h43, h.h44, h.h45, h.h46, h.h47, h.h48, h.h49, h.h50, h.h51⟩⟩
    | 21, _, hL, ho, hp =>
      simp only [List.getElem?_toArray, List.getElem?_cons_zero, List.getElem?_cons_succ, Option.some.injEq] at ho
      subst ho
      have p16 : L 16 = true := hp ⟨16, .guard⟩ (by simp) rfl
      obtain rfl := h.h16 p16
      rw [if_pos (by rfl)]
      go_simp
      exact ⟨_, _, _, _, _, _, _, _, _, _, _, _, _, _, _, _, _, _, _, _, _, _, _, _, _, _, _, _, _, _, _, _, _, _, _, _, _, _, _, _, _, _, _, _, _, _, _, _, _, _, _, _, rfl, ⟨h.low, h.kp, h.kq, h.km, h.h0, h.h1, h.h2, h.h3, h.h4, h.h5, h.h6, h.h7, h.h8, h.h9, h.h10, h.h11, h.h12, h.h13, h.h14, h.h15, h.h16, h.h17, h.h18, h.h19, h.h20, fun _ => rfl, h.h22, h.h23, h.h24, h.h25, h.h26, h.h27, h.h28, h.h29, h.h30, h.h31, h.h32, h.h33, h.h34, h.h35, h.h36, h.h37, h.h38, h.h39, h.h40, h.h41, h.h42, h.h43, h.h44, h.h45, h.h46, h.h47, h.h48, h.h49, h.h50, h.h51⟩⟩
    | 22, _, hL, ho, hp =>
      simp only [List.getElem?_toArray, List.getElem?_cons_zero, List.getElem?_cons_succ, Option.some.injEq] at ho
      subst ho
      have p16 : L 16 = true := hp ⟨16, .guard⟩ (by simp) rfl
      obtain rfl := h.h16 p16
      have p21 : L 21 = true := hp ⟨21, .data⟩ (by simp) rfl
      obtain rfl := h.h21 p21
      rw [if_pos (by rfl)]
      have ckp0 := h.kp.cell 0
      have lkp := h.kp.lt
      simp only [List.getElem?_toArray, List.getElem?_cons_zero] at ckp0
      go_simp
      exact ⟨_, _, _, _, _, _, _, _, _, _, _, _, _, _, _, _, _, _, _, _, _, _, _, _, _, _, _, _, _, _, _, _, _, _, _, _, _, _, _, _, _, _, _, _, _, _, _, _, _, _, _, _, rfl, ⟨h.low, h.kp, h.kq, h.km, h.h0, h.h1, h.h2, h.h3, h.h4, h.h5, h.h6, h.h7, h.h8, h.h9, h.h10, h.h11, h.h12, h.h13, h.h14, h.h15, h.h16, h.h17, h.h18, h.h19, h.h20, h.h21, fun _ => rfl, h.h23, h.h24, h.h25, h.h26, h.h27, h.h28, h.h29, h.h30, h.h31, h.h32, h.h33, h.h34, h.h35, h.h36, h.h37, h.h38, h.h39, h.h40, h.h41, h.h42, h.h43, h.h44, h.h45, h.h46, h.h47, h.h48, h.h49, h.h50, h.h51⟩⟩
    | 23, _, hL, ho, hp =>
      simp only [List.getElem?_toArray, List.getElem?_cons_zero, List.getElem?_cons_succ, Option.some.injEq] at ho
      subst ho
      have p16 : L 16 = true := hp ⟨16, .guard⟩ (by simp) rfl
      obtain rfl := h.h16 p16
      have p22 : L 22 = true := hp ⟨22, .data⟩ (by simp) rfl
      obtain rfl := h.h22 p22
      rw [if_pos (by rfl)]
      go_simp
      exact ⟨_, _, _, _, _, _, _, _, _, _, _, _, _, _, _, _, _, _, _, _, _, _, _, _, _, _, _, _, _, _, _, _, _, _, _, _, _, _, _, _, _, _, _, _, _, _, _, _, _, _, _, _, rfl, ⟨h.low, h.kp, h.kq, h.km, h.h0, h.h1, h.h2, h.h3, h.h4, h.h5, h.h6, h.h7, h.h8, h.h9, h.h10, h.h11, h.h12, h.h13, h.h14, h.h15, h.h16, h.h17, h.h18, h.h19, h.h20, h.h21, h.h22, fun _ => rfl, h.h24, h.h25, h.h26, h.h27, h.h28, h.h29, h.h30, h.h31, h.h32, h.h33, h.h34, h.h35, h.h36, h.h37, h.h38, h.h39, h.h40, h.h41, h.h42, h.h43, h.h44, h.h45, h.h46, h.h47, h.h48, h.h49, h.h50, h.h51⟩⟩
    | 24, _, hL, ho, hp =>
      simp only [List.getElem?_toArray, List.getElem?_cons_zero, List.getElem?_cons_succ, Option.some.injEq] at ho
      subst ho
      have p16 : L 16 = true := hp ⟨16, .guard⟩ (by simp) rfl
      obtain rfl := h.h16 p16
      have p20 : L 20 = true := hp ⟨20, .data⟩ (by simp) rfl
      obtain rfl := h.h20 p20
      have p23 : L 23 = true := hp ⟨23, .data⟩ (by simp) rfl
      obtain rfl := h.h23 p23
      rw [if_pos (by rfl)]
      have f1 : n1 ≤ c3 := by omega
      have f2 : (n1 : Int) ≤ (c3 : Int) := by omega
      go_simp
      exact ⟨_, _, _, _, _, _, _, _, _, _, _, _, _, _, _, _, _, _, _, _, _, _, _, _, _, _, _, _, _, _, _, _, _, _, _, _, _, _, _, _, _, _, _, _, _, _, _, _, _, _, _, _, rfl, ⟨h.low, h.kp, h.kq, h.km, h.h0, h.h1, h.h2, h.h3, h.h4, h.h5, h.h6, h.h7, h.h8, h.h9, h.h10, h.h11, h.h12, h.h13, h.h14, h.h15, h.h16, h.h17, h.h18, h.h19, h.h20, h.h21, h.h22, h.h23, fun _ => rfl, h.h25, h.h26, h.h27, h.h28, h.h29, h.h30, h.h31, h.h32, h.h33, h.h34, h.h35, h.h36, h.h37, h.h38, h.h39, h.h40, h.h41, h.h42, h.h43, h.h44, h.h45, h.h46, h.h47, h.h48, h.h49, h.h50, h.h51⟩⟩
    | 25, _, hL, ho, hp =>
      simp only [List.getElem?_toArray, List.getElem?_cons_zero, List.getElem?_cons_succ, Option.some.injEq] at ho
      subst ho
      have p16 : L 16 = true := hp ⟨16, .guard⟩ (by simp) rfl
      obtain rfl := h.h16 p16
      have p18 : L 18 = true := hp ⟨18, .data⟩ (by simp) rfl
      obtain rfl := h.h18 p18
      have p24 : L 24 = true := hp ⟨24, .data⟩ (by simp) rfl
      obtain rfl := h.h24 p24
      rw [if_pos (by rfl)]
      go_simp
      go_at_call 27
      (with_reducible refine (HE.out _ _ _ X (HP1.out _ h.low) (HQ1.out _ h.low)).mono ?_)
      rintro e X2 ⟨rfl, gX⟩
      have gb := gX.below
      have hlow2 := below_later h.low gb
      exact ⟨_, _, _, _, _, _, _, _, _, _, _, _, _, _, _, _, _, _, _, _, _, _, _, _, _, _, _, _, _, _, _, _, _, _, _, _, _, _, _, _, _, _, _, _, _, _, _, _, _, _, _, _, rfl, ⟨hlow2, h.kp.later gb, h.kq.later gb, h.km.later gb, h.h0, h.h1, h.h2, h.h3, h.h4, h.h5, h.h6, h.h7, h.h8, h.h9, h.h10, h.h11, h.h12, h.h13, h.h14, h.h15, h.h16, h.h17, h.h18, h.h19, h.h20, h.h21, h.h22, h.h23, h.h24, fun _ => rfl, h.h26, h.h27, h.h28, h.h29, h.h30, h.h31, h.h32, h.h33, h.h34, h.h35, h.h36, h.h37, h.h38, h.h39, h.h40, h.h41, h.h42, h.h43, h.h44, h.h45, h.h46, h.h47, h.h48, h.h49, h.h50, h.h51⟩⟩
    | 26, _, hL, ho, hp =>
      simp only [List.getElem?_toArray, List.getElem?_cons_zero, List.getElem?_cons_succ, Option.some.injEq] at ho
      subst ho
      have p16 : L 16 = true := hp ⟨16, .guard⟩ (by simp) rfl
      obtain rfl := h.h16 p16
      have p25 : L 25 = true := hp ⟨25, .data⟩ (by simp) rfl
      obtain rfl := h.h25 p25
      rw [if_pos (by rfl)]
      go_simp
      exact ⟨_, _, _, _, _, _, _, _, _, _, _, _, _, _, _, _, _, _, _, _, _, _, _, _, _, _, _, _, _, _, _, _, _, _, _, _, _, _, _, _, _, _, _, _, _, _, _, _, _, _, _, _, rfl, ⟨h.low, h.kp, h.kq, h.km, h.h0, h.h1, h.h2, h.h3, h.h4, h.h5, h.h6, h.h7, h.h8, h.h9, h.h10, h.h11, h.h12, h.h13, h.h14, h.h15, h.h16, h.h17, h.h18, h.h19, h.h20, h.h21, h.h22, h.h23, h.h24, h.h25, fun _ => rfl, h.h27, h.h28, h.h29, h.h30, h.h31, h.h32, h.h33, h.h34, h.h35, h.h36, h.h37, h.h38, h.h39, h.h40, h.h41, h.h42, h.h43, h.h44, h.h45, h.h46, h.h47, h.h48, h.h49, h.h50, h.h51⟩⟩
    | 27, _, hL, ho, hp =>
      simp only [List.getElem?_toArray, List.getElem?_cons_zero, List.getElem?_cons_succ, Option.some.injEq] at ho
      subst ho
      have p16 : L 16 = true := hp ⟨16, .data⟩ (by simp) rfl
      obtain rfl := h.h16 p16
      have p26 : L 26 = true := hp ⟨26, .data⟩ (by simp) rfl
      obtain rfl := h.h26 p26
      rw [if_pos (by rfl)]
      go_simp
      exact ⟨_, _, _, _, _, _, _, _, _, _, _, _, _, _, _, _, _, _, _, _, _, _, _, _, _, _, _, _, _, _, _, _, _, _, _, _, _, _, _, _, _, _, _, _, _, _, _, _, _, _, _, _, rfl, ⟨h.low, h.kp, h.kq, h.km, h.h0, h.h1, h.h2, h.h3, h.h4, h.h5, h.h6, h.h7, h.h8, h.h9, h.h10, h.h11, h.h12, h.h13, h.h14, h.h15, h.h16, h.h17, h.h18, h.h19, h.h20, h.h21, h.h22, h.h23, h.h24, h.h25, h.h26, fun _ => rfl, h.h28, h.h29, h.h30, h.h31, h.h32, h.h33, h.h34, h.h35, h.h36, h.h37, h.h38, h.h39, h.h40, h.h41, h.h42, h.h43, h.h44, h.h45, h.h46, h.h47, h.h48, h.h49, h.h50, h.h51⟩⟩
    | 28, _, hL, ho, hp =>
      simp only [List.getElem?_toArray, List.getElem?_cons_zero, List.getElem?_cons_succ, Option.some.injEq] at ho
      subst ho
      have p27 : L 27 = true := hp ⟨27, .data⟩ (by simp) rfl
      obtain rfl := h.h27 p27
      rw [if_pos (by rfl)]
      go_simp
      exact ⟨_, _, _, _, _, _, _, _, _, _, _, _, _, _, _, _, _, _, _, _, _, _, _, _, _, _, _, _, _, _, _, _, _, _, _, _, _, _, _, _, _, _, _, _, _, _, _, _, _, _, _, _, rfl, ⟨h.low, h.kp, h.kq, h.km, h.h0, h.h1, h.h2, h.h3, h.h4, h.h5, h.h6, h.h7, h.h8, h.h9, h.h10, h.h11, h.h12, h.h13, h.h14, h.h15, h.h16, h.h17, h.h18, h.h19, h.h20, h.h21, h.h22, h.h23, h.h24, h.h25, h.h26, h.h27, fun _ => rfl, h.h29, h.h30, h.h31, h.h32, h.h33, h.h34, h.h35, h.h36, h.h37, h.h38, h.h39, h.h40, h.h41, h.h42, h.h43, h.h44, h.h45, h.h46, h.h47, h.h48, h.h49, h.h50, h.h51⟩⟩
    | 29, _, hL, ho, hp =>
      simp only [List.getElem?_toArray, List.getElem?_cons_zero, List.getElem?_cons_succ, Option.some.injEq] at ho
      subst ho
      have p28 : L 28 = true := hp ⟨28, .guard⟩ (by simp) rfl
      obtain rfl := h.h28 p28
      rw [if_pos (by rfl)]
      go_simp
      exact ⟨_, _, _, _, _, _, _, _, _, _, _, _, _, _, _, _, _, _, _, _, _, _, _, _, _, _, _, _, _, _, _, _, _, _, _, _, _, _, _, _, _, _, _, _, _, _, _, _, _, _, _, _, rfl, ⟨h.low, h.kp, h.kq, h.km, h.h0, h.h1, h.h2, h.h3, h.h4, h.h5, h.h6, h.h7, h.h8, h.h9, h.h10, h.h11, h.h12, h.h13, h.h14, h.h15, h.h16, h.h17, h.h18, h.h19, h.h20, h.h21, h.h22, h.h23, h.h24, h.h25, h.h26, h.h27, h.h28, fun _ => rfl, h.h30, h.h31, h.h32, h.h33, h.h34, h.h35, h.h36, h.h37, h.h38, h.h39, h.h40, h.h41, h.h42, h.h43, h.h44, h.h45, h.h46, h.h47, h.h48, h.h49, h.h50, h.h51⟩⟩
    | 30, _, hL, ho, hp =>
      simp only [List.getElem?_toArray, List.getElem?_cons_zero, List.getElem?_cons_succ, Option.some.injEq] at ho
      subst ho
      have p28 : L 28 = true := hp ⟨28, .guard⟩ (by simp) rfl
      obtain rfl := h.h28 p28
      have p29 : L 29 = true := hp ⟨29, .data⟩ (by simp) rfl
      obtain rfl := h.h29 p29
      rw [if_pos (by rfl)]
      have ckp1 := h.kp.cell 1
      have lkp := h.kp.lt
      simp only [List.getElem?_toArray, List.getElem?_cons_zero, List.getElem?_cons_succ] at ckp1
      go_simp
      exact ⟨_, _, _, _, _, _, _, _, _, _, _, _, _, _, _, _, _, _, _, _, _, _, _, _, _, _, _, _, _, _, _, _, _, _, _, _, _, _, _, _, _, _, _, _, _, _, _, _, _, _, _, _, rfl, ⟨h.low, h.kp, h.kq, h.km, h.h0, h.h1, h.h2, h.h3, h.h4, h.h5, h.h6, h.h7, h.h8, h.h9, h.h10, h.h11, h.h12, h.h13, h.h14, h.h15, h.h16, h.h17, h.h18, h.h19, h.h20, h.h21, h.h22, h.h23, h.h24, h.h25, h.h26, h.h27, h.h28, h.h29, fun _ => rfl, h.h31, h.h32, h.h33, h.h34, h.h35, h.h36, h.h37, h.h38, h.h39, h.h40, h.h41, h.h42, h.h43, h.h44, h.h45, h.h46, h.h47, h.h48, h.h49, h.h50, h.h51⟩⟩
    | 31, _, hL, ho, hp =>
      simp only [List.getElem?_toArray, List.getElem?_cons_zero, List.getElem?_cons_succ, Option.some.injEq] at ho
      subst ho
      have p28 : L 28 = true := hp ⟨28, .guard⟩ (by simp) rfl
      obtain rfl := h.h28 p28
      rw [if_pos (by rfl)]
      go_simp
      exact ⟨_, _, _, _, _, _, _, _, _, _, _, _, _, _, _, _, _, _, _, _, _, _, _, _, _, _, _, _, _, _, _, _, _, _, _, _, _, _, _, _, _, _, _, _, _, _, _, _, _, _, _, _, rfl, ⟨h.low, h.kp, h.kq, h.km, h.h0, h.h1, h.h2, h.h3, h.h4, h.h5, h.h6, h.h7, h.h8, h.h9, h.h10, h.h11, h.h12, h.h13, h.h14, h.h15, h.h16, h.h17, h.h18, h.h19, h.h20, h.h21, h.h22, h.h23, h.h24, h.h25, h.h26, h.h27, h.h28, h.h29, h.h30, fun _ => rfl, h.h32, h.h33, h.h34, h.h35, h.h36, h.h37, h.h38, h.h39, h.h40, h.h41, h.h42, h.h43, h.h44, h.h45, h.h46, h.h47, h.h48, h.h49, h.h50, h.h51⟩⟩
    | 32, _, hL, ho, hp =>
      simp only [List.getElem?_toArray, List.getElem?_cons_zero, List.getElem?_cons_succ, Option.some.injEq] at ho
      subst ho
      have p28 : L 28 = true := hp ⟨28, .guard⟩ (by simp) rfl
      obtain rfl := h.h28 p28
      have p31 : L 31 = true := hp ⟨31, .data⟩ (by simp) rfl
      obtain rfl := h.h31 p31
      rw [if_pos (by rfl)]
      have ckq1 := h.kq.cell 1
      have lkq := h.kq.lt
      simp only [List.getElem?_toArray, List.getElem?_cons_zero, List.getElem?_cons_succ] at ckq1
      go_simp
      exact ⟨_, _, _, _, _, _, _, _, _, _, _, _, _, _, _, _, _, _, _, _, _, _, _, _, _, _, _, _, _, _, _, _, _, _, _, _, _, _, _, _, _, _, _, _, _, _, _, _, _, _, _, _, rfl, ⟨h.low, h.kp, h.kq, h.km, h.h0, h.h1, h.h2, h.h3, h.h4, h.h5, h.h6, h.h7, h.h8, h.h9, h.h10, h.h11, h.h12, h.h13, h.h14, h.h15, h.h16, h.h17, h.h18, h.h19, h.h20, h.h21, h.h22, h.h23, h.h24, h.h25, h.h26, h.h27, h.h28, h.h29, h.h30, h.h31, fun _ => rfl, h.h33, h.h34, h.h35, h.h36, h.h37, h.h38, h.h39, h.h40, h.h41, h.h42, h.h43, h.h44, h.h45, h.h46, h.h47, h.h48, h.h49, h.h50, h.h51⟩⟩
    | 33, _, hL, ho, hp =>
      simp only [List.getElem?_toArray, List.getElem?_cons_zero, List.getElem?_cons_succ, Option.some.injEq] at ho
      subst ho
      have p28 : L 28 = true := hp ⟨28, .guard⟩ (by simp) rfl
      obtain rfl := h.h28 p28
      rw [if_pos (by rfl)]
      go_simp
      exact ⟨_, _, _, _, _, _, _, _, _, _, _, _, _, _, _, _, _, _, _, _, _, _, _, _, _, _, _, _, _, _, _, _, _, _, _, _, _, _, _, _, _, _, _, _, _, _, _, _, _, _, _, _, rfl, ⟨h.low, h.kp, h.kq, h.km, h.h0, h.h1, h.h2, h.h3, h.h4, h.h5, h.h6, h.h7, h.h8, h.h9, h.h10, h.h11, h.h12, h.h13, h.h14, h.h15, h.h16, h.h17, h.h18, h.h19, h.h20, h.h21, h.h22, h.h23, h.h24, h.h25, h.h26, h.h27, h.h28, h.h29, h.h30, h.h31, h.h32, fun _ => rfl, h.h34, h.h35, h.h36, h.h37, h.h38, h.h39, h.h40, h.h41, h.h42, h.h43, h.h44, h.h45, h.h46, h.h47, h.h48, h.h49, h.h50, h.h51⟩⟩
    | 34, _, hL, ho, hp =>
      simp only [List.getElem?_toArray, List.getElem?_cons_zero, List.getElem?_cons_succ, Option.some.injEq] at ho
      subst ho
      have p28 : L 28 = true := hp ⟨28, .guard⟩ (by simp) rfl
      obtain rfl := h.h28 p28
      have p33 : L 33 = true := hp ⟨33, .data⟩ (by simp) rfl
      obtain rfl := h.h33 p33
      rw [if_pos (by rfl)]
      have ckp1 := h.kp.cell 1
      have lkp := h.kp.lt
      simp only [List.getElem?_toArray, List.getElem?_cons_zero, List.getElem?_cons_succ] at ckp1
      go_simp
      exact ⟨_, _, _, _, _, _, _, _, _, _, _, _, _, _, _, _, _, _, _, _, _, _, _, _, _, _, _, _, _, _, _, _, _, _, _, _, _, _, _, _, _, _, _, _, _, _, _, _, _, _, _, _, rfl, ⟨h.low, h.kp, h.kq, h.km, h.h0, h.h1, h.h2, h.h3, h.h4, h.h5, h.h6, h.h7, h.h8, h.h9, h.h10, h.h11, h.h12, h.h13, h.h14, h.h15, h.h16, h.h17, h.h18, h.h19, h.h20, h.h21, h.h22, h.h23, h.h24, h.h25, h.h26, h.h27, h.h28, h.h29, h.h30, h.h31, h.h32, h.h33, fun _ => rfl, h.h35, h.h36, h.h37, h.h38, h.h39, h.h40, h.h41, h.h42, h.h43, h.h44, h.h45, h.h46, h.h47, h.h48, h.h49, h.h50, h.h51⟩⟩
    | 35, _, hL, ho, hp =>
      simp only [List.getElem?_toArray, List.getElem?_cons_zero, List.getElem?_cons_succ, Option.some.injEq] at ho
      subst ho
      have p28 : L 28 = true := hp ⟨28, .guard⟩ (by simp) rfl
      obtain rfl := h.h28 p28
      have p34 : L 34 = true := hp ⟨34, .data⟩ (by simp) rfl
      obtain rfl := h.h34 p34
      rw [if_pos (by rfl)]
      go_simp
      exact ⟨_, _, _, _, _, _, _, _, _, _, _, _, _, _, _, _, _, _, _, _, _, _, _, _, _, _, _, _, _, _, _, _, _, _, _, _, _, _, _, _, _, _, _, _, _, _, _, _, _, _, _, _, rfl, ⟨h.low, h.kp, h.kq, h.km, h.h0, h.h1, h.h2, h.h3, h.h4, h.h5, h.h6, h.h7, h.h8, h.h9, h.h10, h.h11, h.h12, h.h13, h.h14, h.h15, h.h16, h.h17, h.h18, h.h19, h.h20, h.h21, h.h22, h.h23, h.h24, h.h25, h.h26, h.h27, h.h28, h.h29, h.h30, h.h31, h.h32, h.h33, h.h34, fun _ => rfl, h.h36, h.h37, h.h38, h.h39, h.h40, h.h41, h.h42, h.h43, h.h44, h.h45, h.h46, h.h47, h.h48, h.h49, h.h50, h.h51⟩⟩
    | 36, _, hL, ho, hp =>
      simp only [List.getElem?_toArray, List.getElem?_cons_zero, List.getElem?_cons_succ, Option.some.injEq] at ho
      subst ho
      have p28 : L 28 = true := hp ⟨28, .guard⟩ (by simp) rfl
      obtain rfl := h.h28 p28
      have p32 : L 32 = true := hp ⟨32, .data⟩ (by simp) rfl
      obtain rfl := h.h32 p32
      have p35 : L 35 = true := hp ⟨35, .data⟩ (by simp) rfl
      obtain rfl := h.h35 p35
      rw [if_pos (by rfl)]
      have f1 : n2 ≤ c4 := by omega
      have f2 : (n2 : Int) ≤ (c4 : Int) := by omega
      go_simp
      exact ⟨_, _, _, _, _, _, _, _, _, _, _, _, _, _, _, _, _, _, _, _, _, _, _, _, _, _, _, _, _, _, _, _, _, _, _, _, _, _, _, _, _, _, _, _, _, _, _, _, _, _, _, _, rfl, ⟨h.low, h.kp, h.kq, h.km, h.h0, h.h1, h.h2, h.h3, h.h4, h.h5, h.h6, h.h7, h.h8, h.h9, h.h10, h.h11, h.h12, h.h13, h.h14, h.h15, h.h16, h.h17, h.h18, h.h19, h.h20, h.h21, h.h22, h.h23, h.h24, h.h25, h.h26, h.h27, h.h28, h.h29, h.h30, h.h31, h.h32, h.h33, h.h34, h.h35, fun _ => rfl, h.h37, h.h38, h.h39, h.h40, h.h41, h.h42, h.h43, h.h44, h.h45, h.h46, h.h47, h.h48, h.h49, h.h50, h.h51⟩⟩
    | 37, _, hL, ho, hp =>
      simp only [List.getElem?_toArray, List.getElem?_cons_zero, List.getElem?_cons_succ, Option.some.injEq] at ho
      subst ho
      have p28 : L 28 = true := hp ⟨28, .guard⟩ (by simp) rfl
      obtain rfl := h.h28 p28
      have p30 : L 30 = true := hp ⟨30, .data⟩ (by simp) rfl
      obtain rfl := h.h30 p30
      have p36 : L 36 = true := hp ⟨36, .data⟩ (by simp) rfl
      obtain rfl := h.h36 p36
      rw [if_pos (by rfl)]
      go_simp
      go_at_call 27
      (with_reducible refine (HE.out _ _ _ X (HP2.out _ h.low) (HQ2.out _ h.low)).mono ?_)
      rintro e X2 ⟨rfl, gX⟩
      have gb := gX.below
      have hlow2 := below_later h.low gb
      exact ⟨_, _, _, _, _, _, _, _, _, _, _, _, _, _, _, _, _, _, _, _, _, _, _, _, _, _, _, _, _, _, _, _, _, _, _, _, _, _, _, _, _, _, _, _, _, _, _, _, _, _, _, _, rfl, ⟨hlow2, h.kp.later gb, h.kq.later gb, h.km.later gb, h.h0, h.h1, h.h2, h.h3, h.h4, h.h5, h.h6, h.h7, h.h8, h.h9, h.h10, h.h11, h.h12, h.h13, h.h14, h.h15, h.h16, h.h17, h.h18, h.h19, h.h20, h.h21, h.h22, h.h23, h.h24, h.h25, h.h26, h.h27, h.h28, h.h29, h.h30, h.h31, h.h32, h.h33, h.h34, h.h35, h.h36, fun _ => rfl, h.h38, h.h39, h.h40, h.h41, h.h42, h.h43, h.h44, h.h45, h.h46, h.h47, h.h48, h.h49, h.h50, h.h51⟩⟩
    | 38, _, hL, ho, hp =>
      simp only [List.getElem?_toArray, List.getElem?_cons_zero, List.getElem?_cons_succ, Option.some.injEq] at ho
      subst ho
      have p28 : L 28 = true := hp ⟨28, .guard⟩ (by simp) rfl
      obtain rfl := h.h28 p28
      have p37 : L 37 = true := hp ⟨37, .data⟩ (by simp) rfl
      obtain rfl := h.h37 p37
      rw [if_pos (by rfl)]
      go_simp
      exact ⟨_, _, _, _, _, _, _, _, _, _, _, _, _, _, _, _, _, _, _, _, _, _, _, _, _, _, _, _, _, _, _, _, _, _, _, _, _, _, _, _, _, _, _, _, _, _, _, _, _, _, _, _, rfl, ⟨h.low, h.kp, h.kq, h.km, h.h0, h.h1, h.h2, h.h3, h.h4, h.h5, h.h6, h.h7, h.h8, h.h9, h.h10, h.h11, h.h12, h.h13, h.h14, h.h15, h.h16, h.h17, h.h18, h.h19, h.h20, h.h21, h.h22, h.h23, h.h24, h.h25, h.h26, h.h27, h.h28, h.h29, h.h30, h.h31, h.h32, h.h33, h.h34, h.h35, h.h36, h.h37, fun _ => rfl, h.h39, h.h40, h.h41, h.h42, h.h43, h.h44, h.h45, h.h46, h.h47, h.h48, h.h49, h.h50, h.h51⟩⟩
    | 39, _, hL, ho, hp =>
      simp only [List.getElem?_toArray, List.getElem?_cons_zero, List.getElem?_cons_succ, Option.some.injEq] at ho
      subst ho
      have p28 : L 28 = true := hp ⟨28, .data⟩ (by simp) rfl
      obtain rfl := h.h28 p28
      have p38 : L 38 = true := hp ⟨38, .data⟩ (by simp) rfl
      obtain rfl := h.h38 p38
      rw [if_pos (by rfl)]
      go_simp
      exact ⟨_, _, _, _, _, _, _, _, _, _, _, _, _, _, _, _, _, _, _, _, _, _, _, _, _, _, _, _, _, _, _, _, _, _, _, _, _, _, _, _, _, _, _, _, _, _, _, _, _, _, _, _, rfl, ⟨h.low, h.kp, h.kq, h.km, h.h0, h.h1, h.h2, h.h3, h.h4, h.h5, h.h6, h.h7, h.h8, h.h9, h.h10, h.h11, h.h12, h.h13, h.h14, h.h15, h.h16, h.h17, h.h18, h.h19, h.h20, h.h21, h.h22, h.h23, h.h24, h.h25, h.h26, h.h27, h.h28, h.h29, h.h30, h.h31, h.h32, h.h33, h.h34, h.h35, h.h36, h.h37, h.h38, fun _ => rfl, h.h40, h.h41, h.h42, h.h43, h.h44, h.h45, h.h46, h.h47, h.h48, h.h49, h.h50, h.h51⟩⟩
    | 40, _, hL, ho, hp =>
      simp only [List.getElem?_toArray, List.getElem?_cons_zero, List.getElem?_cons_succ, Option.some.injEq] at ho
      subst ho
      have p39 : L 39 = true := hp ⟨39, .data⟩ (by simp) rfl
      obtain rfl := h.h39 p39
      rw [if_pos (by rfl)]
      go_simp
      exact ⟨_, _, _, _, _, _, _, _, _, _, _, _, _, _, _, _, _, _, _, _, _, _, _, _, _, _, _, _, _, _, _, _, _, _, _, _, _, _, _, _, _, _, _, _, _, _, _, _, _, _, _, _, rfl, ⟨h.low, h.kp, h.kq, h.km, h.h0, h.h1, h.h2, h.h3, h.h4, h.h5, h.h6, h.h7, h.h8, h.h9, h.h10, h.h11, h.h12, h.h13, h.h14, h.h15, h.h16, h.h17, h.h18, h.h19, h.h20, h.h21, h.h22, h.h23, h.h24, h.h25, h.h26, h.h27, h.h28, h.h29, h.h30, h.h31, h.h32, h.h33, h.h34, h.h35, h.h36, h.h37, h.h38, h.h39, fun _ => rfl, h.h41, h.h42, h.h43, h.h44, h.h45, h.h46, h.h47, h.h48, h.h49, h.h50, h.h51⟩⟩
    | 41, _, hL, ho, hp =>
      simp only [List.getElem?_toArray, List.getElem?_cons_zero, List.getElem?_cons_succ, Option.some.injEq] at ho
      subst ho
      have p40 : L 40 = true := hp ⟨40, .guard⟩ (by simp) rfl
      obtain rfl := h.h40 p40
      rw [if_pos (by rfl)]
      go_simp
      exact ⟨_, _, _, _, _, _, _, _, _, _, _, _, _, _, _, _, _, _, _, _, _, _, _, _, _, _, _, _, _, _, _, _, _, _, _, _, _, _, _, _, _, _, _, _, _, _, _, _, _, _, _, _, rfl, ⟨h.low, h.kp, h.kq, h.km, h.h0, h.h1, h.h2, h.h3, h.h4, h.h5, h.h6, h.h7, h.h8, h.h9, h.h10, h.h11, h.h12, h.h13, h.h14, h.h15, h.h16, h.h17, h.h18, h.h19, h.h20, h.h21, h.h22, h.h23, h.h24, h.h25, h.h26, h.h27, h.h28, h.h29, h.h30, h.h31, h.h32, h.h33, h.h34, h.h35, h.h36, h.h37, h.h38, h.h39, h.h40, fun _ => rfl, h.h42, h.h43, h.h44, h.h45, h.h46, h.h47, h.h48, h.h49, h.h50, h.h51⟩⟩
    | 42, _, hL, ho, hp =>
      simp only [List.getElem?_toArray, List.getElem?_cons_zero, List.getElem?_cons_succ, Option.some.injEq] at ho
      subst ho
      have p40 : L 40 = true := hp ⟨40, .guard⟩ (by simp) rfl
      obtain rfl := h.h40 p40
      have p41 : L 41 = true := hp ⟨41, .data⟩ (by simp) rfl
      obtain rfl := h.h41 p41
      rw [if_pos (by rfl)]
      have ckp0 := h.kp.cell 0
      have lkp := h.kp.lt
      simp only [List.getElem?_toArray, List.getElem?_cons_zero] at ckp0
      go_simp
      exact ⟨_, _, _, _, _, _, _, _, _, _, _, _, _, _, _, _, _, _, _, _, _, _, _, _, _, _, _, _, _, _, _, _, _, _, _, _, _, _, _, _, _, _, _, _, _, _, _, _, _, _, _, _, rfl, ⟨h.low, h.kp, h.kq, h.km, h.h0, h.h1, h.h2, h.h3, h.h4, h.h5, h.h6, h.h7, h.h8, h.h9, h.h10, h.h11, h.h12, h.h13, h.h14, h.h15, h.h16, h.h17, h.h18, h.h19, h.h20, h.h21, h.h22, h.h23, h.h24, h.h25, h.h26, h.h27, h.h28, h.h29, h.h30, h.h31, h.h32, h.h33, h.h34, h.h35, h.h36, h.h37, h.h38, h.h39, h.h40, h.h41, fun _ => rfl, h.h43, h.h44, h.h45, h.h46, h.h47, h.h48, h.h49, h.h50, h.h51⟩⟩
    | 43, _, hL, ho, hp =>
      simp only [List.getElem?_toArray, List.getElem?_cons_zero, List.getElem?_cons_succ, Option.some.injEq] at ho
      subst ho
      have p40 : L 40 = true := hp ⟨40, .guard⟩ (by simp) rfl
      obtain rfl := h.h40 p40
      have p42 : L 42 = true := hp ⟨42, .data⟩ (by simp) rfl
      obtain rfl := h.h42 p42
      rw [if_pos (by rfl)]
      go_simp
      exact ⟨_, _, _, _, _, _, _, _, _, _, _, _, _, _, _, _, _, _, _, _, _, _, _, _, _, _, _, _, _, _, _, _, _, _, _, _, _, _, _, _, _, _, _, _, _, _, _, _, _, _, _, _, rfl, ⟨h.low, h.kp, h.kq, h.km, h.h0, h.h1, h.h2, h.h3, h.h4, h.h5, h.h6, h.h7, h.h8, h.h9, h.h10, h.h11, h.h12, h.h13, h.h14, h.h15, h.h16, h.h17, h.h18, h.h19, h.h20, h.h21, h.h22, h.h23, h.h24, h.h25, h.h26, h.h27, h.h28, h.h29, h.h30, h.h31, h.h32, h.h33, h.h34, h.h35, h.h36, h.h37, h.h38, h.h39, h.h40, h.h41, h.h42, fun _ => rfl, h.h44, h.h45, h.h46, h.h47, h.h48, h.h49, h.h50, h.h51⟩⟩
    | 44, _, hL, ho, hp =>
      simp only [List.getElem?_toArray, List.getElem?_cons_zero, List.getElem?_cons_succ, Option.some.injEq] at ho
      subst ho
      have p40 : L 40 = true := hp ⟨40, .guard⟩ (by simp) rfl
      obtain rfl := h.h40 p40
      rw [if_pos (by rfl)]
      go_simp
      exact ⟨_, _, _, _, _, _, _, _, _, _, _, _, _, _, _, _, _, _, _, _, _, _, _, _, _, _, _, _, _, _, _, _, _, _, _, _, _, _, _, _, _, _, _, _, _, _, _, _, _, _, _, _, rfl, ⟨h.low, h.kp, h.kq, h.km, h.h0, h.h1, h.h2, h.h3, h.h4, h.h5, h.h6, h.h7, h.h8, h.h9, h.h10, h.h11, h.h12, h.h13, h.h14, h.h15, h.h16, h.h17, h.h18, h.h19, h.h20, h.h21, h.h22, h.h23, h.h24, h.h25, h.h26, h.h27, h.h28, h.h29, h.h30, h.h31, h.h32, h.h33, h.h34, h.h35, h.h36, h.h37, h.h38, h.h39, h.h40, h.h41, h.h42, h.h43, fun _ => rfl, h.h45, h.h46, h.h47, h.h48, h.h49, h.h50, h.h51⟩⟩
    | 45, _, hL, ho, hp =>
      simp only [List.getElem?_toArray, List.getElem?_cons_zero, List.getElem?_cons_succ, Option.some.injEq] at ho
      subst ho
      have p40 : L 40 = true := hp ⟨40, .guard⟩ (by simp) rfl
      obtain rfl := h.h40 p40
      have p44 : L 44 = true := hp ⟨44, .data⟩ (by simp) rfl
      obtain rfl := h.h44 p44
      rw [if_pos (by rfl)]
      have ckp1 := h.kp.cell 1
      have lkp := h.kp.lt
      simp only [List.getElem?_toArray, List.getElem?_cons_zero, List.getElem?_cons_succ] at ckp1
      go_simp
      exact ⟨_, _, _, _, _, _, _, _, _, _, _, _, _, _, _, _, _, _, _, _, _, _, _, _, _, _, _, _, _, _, _, _, _, _, _, _, _, _, _, _, _, _, _, _, _, _, _, _, _, _, _, _, rfl, ⟨h.low, h.kp, h.kq, h.km, h.h0, h.h1, h.h2, h.h3, h.h4, h.h5, h.h6, h.h7, h.h8, h.h9, h.h10, h.h11, h.h12, h.h13, h.h14, h.h15, h.h16, h.h17, h.h18, h.h19, h.h20, h.h21, h.h22, h.h23, h.h24, h.h25, h.h26, h.h27, h.h28, h.h29, h.h30, h.h31, h.h32, h.h33, h.h34, h.h35, h.h36, h.h37, h.h38, h.h39, h.h40, h.h41, h.h42, h.h43, h.h44, fun _ => rfl, h.h46, h.h47, h.h48, h.h49, h.h50, h.h51⟩⟩
    | 46, _, hL, ho, hp =>
      simp only [List.getElem?_toArray, List.getElem?_cons_zero, List.getElem?_cons_succ, Option.some.injEq] at ho
      subst ho
      have p40 : L 40 = true := hp ⟨40, .guard⟩ (by simp) rfl
      obtain rfl := h.h40 p40
      have p45 : L 45 = true := hp ⟨45, .data⟩ (by simp) rfl
      obtain rfl := h.h45 p45
      rw [if_pos (by rfl)]
      go_simp
      exact ⟨_, _, _, _, _, _, _, _, _, _, _, _, _, _, _, _, _, _, _, _, _, _, _, _, _, _, _, _, _, _, _, _, _, _, _, _, _, _, _, _, _, _, _, _, _, _, _, _, _, _, _, _, rfl, ⟨h.low, h.kp, h.kq, h.km, h.h0, h.h1, h.h2, h.h3, h.h4, h.h5, h.h6, h.h7, h.h8, h.h9, h.h10, h.h11, h.h12, h.h13, h.h14, h.h15, h.h16, h.h17, h.h18, h.h19, h.h20, h.h21, h.h22, h.h23, h.h24, h.h25, h.h26, h.h27, h.h28, h.h29, h.h30, h.h31, h.h32, h.h33, h.h34, h.h35, h.h36, h.h37, h.h38, h.h39, h.h40, h.h41, h.h42, h.h43, h.h44, h.h45, fun _ => rfl, h.h47, h.h48, h.h49, h.h50, h.h51⟩⟩
    | 47, _, hL, ho, hp =>
      simp only [List.getElem?_toArray, List.getElem?_cons_zero, List.getElem?_cons_succ, Option.some.injEq] at ho
      subst ho
      have p40 : L 40 = true := hp ⟨40, .guard⟩ (by simp) rfl
      obtain rfl := h.h40 p40
      have p43 : L 43 = true := hp ⟨43, .data⟩ (by simp) rfl
      obtain rfl := h.h43 p43
      have p46 : L 46 = true := hp ⟨46, .data⟩ (by simp) rfl
      obtain rfl := h.h46 p46
      rw [if_pos (by rfl)]
      have hwr : IntKind.i64.wrap ((n1 : Int) + (n2 : Int)) = (n1 : Int) + (n2 : Int) := by rw [IntKind.wrap_i64]; omega
      go_simp
      exact ⟨_, _, _, _, _, _, _, _, _, _, _, _, _, _, _, _, _, _, _, _, _, _, _, _, _, _, _, _, _, _, _, _, _, _, _, _, _, _, _, _, _, _, _, _, _, _, _, _, _, _, _, _, rfl, ⟨h.low, h.kp, h.kq, h.km, h.h0, h.h1, h.h2, h.h3, h.h4, h.h5, h.h6, h.h7, h.h8, h.h9, h.h10, h.h11, h.h12, h.h13, h.h14, h.h15, h.h16, h.h17, h.h18, h.h19, h.h20, h.h21, h.h22, h.h23, h.h24, h.h25, h.h26, h.h27, h.h28, h.h29, h.h30, h.h31, h.h32, h.h33, h.h34, h.h35, h.h36, h.h37, h.h38, h.h39, h.h40, h.h41, h.h42, h.h43, h.h44, h.h45, h.h46, fun _ => rfl, h.h48, h.h49, h.h50, h.h51⟩⟩
    | 48, _, hL, ho, hp =>
      simp only [List.getElem?_toArray, List.getElem?_cons_zero, List.getElem?_cons_succ, Option.some.injEq] at ho
      subst ho
      have p40 : L 40 = true := hp ⟨40, .guard⟩ (by simp) rfl
      obtain rfl := h.h40 p40
      rw [if_pos (by rfl)]
      go_simp
      exact ⟨_, _, _, _, _, _, _, _, _, _, _, _, _, _, _, _, _, _, _, _, _, _, _, _, _, _, _, _, _, _, _, _, _, _, _, _, _, _, _, _, _, _, _, _, _, _, _, _, _, _, _, _, rfl, ⟨h.low, h.kp, h.kq, h.km, h.h0, h.h1, h.h2, h.h3, h.h4, h.h5, h.h6, h.h7, h.h8, h.h9, h.h10, h.h11, h.h12, h.h13, h.h14, h.h15, h.h16, h.h17, h.h18, h.h19, h.h20, h.h21, h.h22, h.h23, h.h24, h.h25, h.h26, h.h27, h.h28, h.h29, h.h30, h.h31, h.h32, h.h33, h.h34, h.h35, h.h36, h.h37, h.h38, h.h39, h.h40, h.h41, h.h42, h.h43, h.h44, h.h45, h.h46, h.h47, fun _ => rfl, h.h49, h.h50, h.h51⟩⟩
    | 49, _, hL, ho, hp =>
      simp only [List.getElem?_toArray, List.getElem?_cons_zero, List.getElem?_cons_succ, Option.some.injEq] at ho
      subst ho
      have p40 : L 40 = true := hp ⟨40, .guard⟩ (by simp) rfl
      obtain rfl := h.h40 p40
      have p48 : L 48 = true := hp ⟨48, .data⟩ (by simp) rfl
      obtain rfl := h.h48 p48
      rw [if_pos (by rfl)]
      have ckm5 := h.km.cell 5
      have lkm := h.km.lt
      simp only [List.getElem?_toArray, List.getElem?_cons_zero, List.getElem?_cons_succ] at ckm5
      go_simp
      exact ⟨_, _, _, _, _, _, _, _, _, _, _, _, _, _, _, _, _, _, _, _, _, _, _, _, _, _, _, _, _, _, _, _, _, _, _, _, _, _, _, _, _, _, _, _, _, _, _, _, _, _, _, _, rfl, ⟨h.low, h.kp, h.kq, h.km, h.h0, h.h1, h.h2, h.h3, h.h4, h.h5, h.h6, h.h7, h.h8, h.h9, h.h10, h.h11, h.h12, h.h13, h.h14, h.h15, h.h16, h.h17, h.h18, h.h19, h.h20, h.h21, h.h22, h.h23, h.h24, h.h25, h.h26, h.h27, h.h28, h.h29, h.h30, h.h31, h.h32, h.h33, h.h34, h.h35, h.h36, h.h37, h.h38, h.h39, h.h40, h.h41, h.h42, h.h43, h.h44, h.h45, h.h46, h.h47, h.h48, fun _ => rfl, h.h50, h.h51⟩⟩
    | 50, _, hL, ho, hp =>
      simp only [List.getElem?_toArray, List.getElem?_cons_zero, List.getElem?_cons_succ, Option.some.injEq] at ho
      subst ho
      have p40 : L 40 = true := hp ⟨40, .guard⟩ (by simp) rfl
      obtain rfl := h.h40 p40
      have p47 : L 47 = true := hp ⟨47, .data⟩ (by simp) rfl
      obtain rfl := h.h47 p47
      have p49 : L 49 = true := hp ⟨49, .data⟩ (by simp) rfl
      obtain rfl := h.h49 p49
      rw [if_pos (by rfl)]
      have f1 : (((n1 : Int) + (n2 : Int)) != (kk : Int)) = false := by simp; omega
      have hs := Lib.hid (show (n1 : Int) + (n2 : Int) = (kk : Int) by omega)
      go_simp
      exact ⟨_, _, _, _, _, _, _, _, _, _, _, _, _, _, _, _, _, _, _, _, _, _, _, _, _, _, _, _, _, _, _, _, _, _, _, _, _, _, _, _, _, _, _, _, _, _, _, _, _, _, _, _, rfl, ⟨h.low, h.kp, h.kq, h.km, h.h0, h.h1, h.h2, h.h3, h.h4, h.h5, h.h6, h.h7, h.h8, h.h9, h.h10, h.h11, h.h12, h.h13, h.h14, h.h15, h.h16, h.h17, h.h18, h.h19, h.h20, h.h21, h.h22, h.h23, h.h24, h.h25, h.h26, h.h27, h.h28, h.h29, h.h30, h.h31, h.h32, h.h33, h.h34, h.h35, h.h36, h.h37, h.h38, h.h39, h.h40, h.h41, h.h42, h.h43, h.h44, h.h45, h.h46, fun _ => by first | rfl | rw [hs.out], h.h48, h.h49, fun _ => rfl, h.h51⟩⟩
    | 51, _, hL, ho, hp =>
      simp only [List.getElem?_toArray, List.getElem?_cons_zero, List.getElem?_cons_succ, Option.some.injEq] at ho
      subst ho
      have p40 : L 40 = true := hp ⟨40, .data⟩ (by simp) rfl
      obtain rfl := h.h40 p40
      have p50 : L 50 = true := hp ⟨50, .data⟩ (by simp) rfl
      obtain rfl := h.h50 p50
      rw [if_pos (by rfl)]
      go_simp
      exact ⟨_, _, _, _, _, _, _, _, _, _, _, _, _, _, _, _, _, _, _, _, _, _, _, _, _, _, _, _, _, _, _, _, _, _, _, _, _, _, _, _, _, _, _, _, _, _, _, _, _, _, _, _, rfl, ⟨h.low, h.kp, h.kq, h.km, h.h0, h.h1, h.h2, h.h3, h.h4, h.h5, h.h6, h.h7, h.h8, h.h9, h.h10, h.h11, h.h12, h.h13, h.h14, h.h15, h.h16, h.h17, h.h18, h.h19, h.h20, h.h21, h.h22, h.h23, h.h24, h.h25, h.h26, h.h27, h.h28, h.h29, h.h30, h.h31, h.h32, h.h33, h.h34, h.h35, h.h36, h.h37, h.h38, h.h39, h.h40, h.h41, h.h42, h.h43, h.h44, h.h45, h.h46, h.h47, h.h48, h.h49, h.h50, fun _ => rfl⟩⟩
end Go.Proofs.Ytifhfeldjfcbfaa

