/- spec.l06Step: a branch of its switch. spec.l06Step: a branch of its switch. spec.l06Step: a branch of its switch. spec.l06Step: a branch of its switch. -/
import Derived.Test.YtnknnncehcofnaaGreatDoorJ39SpDo
namespace Go.Proofs.YtnknnncehcofnaaGreatDoor
open Go.RowKit

set_option maxRecDepth 100000 in
set_option maxHeartbeats 3200000 in
theorem tailPop {p : List FnM} {s : StM} {low : List FrM} {f : FrM} {i j : Nat} {hs : List Int} {op x : Int} {st v : List Int} {B m b off cap bp op0 capp P Q : Nat} {v' : Value} {w W : World} (A : Sw p s low f i j hs op x st v B m b off cap bp op0 capp P Q v' w W) (hO : op = 5)
    (c3 c6 c8 c9 c10 c11 c12 c13 c14 c15 c16 c17 c18 c19 c20 c21 c22 c23 c24 c25 c26 c27 c28 c29 c30 c31 c32 c33 c34 c35 c36 c37 c38 c39 c40 c41 c42 c43 c44 c45 c46 c47 c48 c49 c50 c51 c52 c53 c54 c55 c56 c57 c58 c59 c60 c61 c62 c63 c64 c65 c66 c67 c68 c69 c70 c71 c72 c73 c74 c75 c76 c77 c79 c80 c81 c82 c83 c84 c85 c86 c87 c88 c89 c90 c91 c92 c93 c94 c95 c96 c97 c98 c99 c100 c101 c102 c103 c104 c105 c106 c107 c108 c109 c110 c111 c112 c113 c114 c115 c116 c117 c118 c119 c120 c121 c122 c123 c124 c125 c126 c127 c128 c129 c130 c131 c132 c133 c134 c135 c136 c137 c138 c139 c140 c141 c142 c143 c144 c145 c146 c147 c148 c149 c150 c151 c152 c153 c154 c155 c156 c157 c158 c159 c160 c161 c162 c163 c164 c165 c166 c167 c168 c169 c170 c171 c172 c173 c174 c175 c176 c177 c178 c179 c180 c181 c182 c183 c184 c185 c186 c187 c188 c189 c190 c191 c192 c193 c194 c195 c196 c197 c198 c199 c200 c201 c202 c203 c204 c205 c206 c207 c208 c209 c210 c211 c212 c213 c214 c215 c216 c217 c218 c219 c220 c221 c222 c223 c224 c225 c226 c227 c228 c229 c230 c231 c232 c233 c234 c235 c236 c237 c238 c239 c240 c241 c242 c243 c244 c245 c246 c247 c248 c249 c250 c251 c252 c253 c254 c255 c256 c257 c258 c259 c260 c261 c262 c263 c264 c265 c266 c267 c268 c269 c270 c271 c272 c273 c274 c275 c276 c277 c278 c279 : Value) :
    Code.wp Tryz.prog swBlock (bodyPost Tryz.prog Tryz.f56 fun e w' => MacZT B m (stepM p s) (.tuple #[]) w w' e) ⟨#[.agg #[.slice (some ⟨bp, op0, none⟩) p.length capp], .pointer (some ⟨m, 0, none⟩), .pointer (some ⟨P, 0, none⟩), c3, .pointer (some ⟨b, off + low.length * 4, none⟩), .pointer (some ⟨Q, 0, none⟩), c6, v', c8, c9, c10, c11, c12, c13, c14, c15, c16, c17, c18, c19, c20, c21, c22, c23, c24, c25, c26, c27, c28, c29, c30, c31, c32, c33, c34, c35, c36, c37, c38, c39, c40, c41, c42, c43, c44, c45, c46, c47, c48, c49, c50, c51, c52, c53, c54, c55, c56, c57, c58, c59, c60, c61, c62, c63, c64, c65, c66, c67, c68, c69, c70, c71, c72, c73, c74, c75, c76, c77, .int .i64 op, c79, c80, c81, c82, c83, c84, c85, c86, c87, c88, c89, c90, c91, c92, c93, c94, c95, c96, c97, c98, c99, c100, c101, c102, c103, c104, c105, c106, c107, c108, c109, c110, c111, c112, c113, c114, c115, c116, c117, c118, c119, c120, c121, c122, c123, c124, c125, c126, c127, c128, c129, c130, c131, c132, c133, c134, c135, c136, c137, c138, c139, c140, c141, c142, c143, c144, c145, c146, c147, c148, c149, c150, c151, c152, c153, c154, c155, c156, c157, c158, c159, c160, c161, c162, c163, c164, c165, c166, c167, c168, c169, c170, c171, c172, c173, c174, c175, c176, c177, c178, c179, c180, c181, c182, c183, c184, c185, c186, c187, c188, c189, c190, c191, c192, c193, c194, c195, c196, c197, c198, c199, c200, c201, c202, c203, c204, c205, c206, c207, c208, c209, c210, c211, c212, c213, c214, c215, c216, c217, c218, c219, c220, c221, c222, c223, c224, c225, c226, c227, c228, c229, c230, c231, c232, c233, c234, c235, c236, c237, c238, c239, c240, c241, c242, c243, c244, c245, c246, c247, c248, c249, c250, c251, c252, c253, c254, c255, c256, c257, c258, c259, c260, c261, c262, c263, c264, c265, c266, c267, c268, c269, c270, c271, c272, c273, c274, c275, c276, c277, c278, c279], []⟩ W := by
  subst hO
  have HA : Hid (Sw p s low f i j hs 5 x st v B m b off cap bp op0 capp P Q v' w W) := A
  obtain ⟨own, V, C, M, hf, hfree⟩ := A.mac
  have k0 := A.q0
  have k1 := A.q1
  have kp := A.qp
  obtain ⟨b', off', cap', T⟩ := M.top (low := low) (f := ⟨f.func, f.pc + 1, f.locals, st⟩) rfl
  have e := T.slice
  rw [hf] at e
  simp only [Value.slice.injEq, Option.some.injEq, Addr.mk.injEq, and_true] at e
  obtain ⟨⟨rfl, rfl⟩, -⟩ := e
  have h88 := A.S.h8
  have hsl : st.length ≤ 8 := by have := congrArg List.length A.left; rw [List.length_take] at this; omega
  obtain ⟨-, A3, cs3, hVk, -⟩ := M.stkRow (low := low) (f := ⟨f.func, f.pc + 1, f.locals, st⟩) rfl (by simp only; omega)
  have k3 := T.c3
  rw [hVk] at k3
  simp only at k3
  have kl := T.lt
  have kne := T.ne
  have kf3 := T.f3
  have kb : B ≤ W.heap.size := Nat.le_of_lt (Nat.lt_of_le_of_lt M.base M.lt)
  have Hs : Hid (stepM p s = ⟨low ++ [⟨f.func, f.pc + 1, f.locals, st⟩], s.heap, s.out, s.fuel - 1, s.done, s.value, s.trap⟩) := by
    obtain ⟨e1, e2, e3⟩ := A.S.top
    show stepM p s = _
    unfold stepM
    dsimp only
    rw [e1, e3, A.hop]
    simp only
    rw [← A.cut, ← A.left, ← A.taken]
    simp [withM, e2]
  have HM : Hid (Mac B m 0 noPr own W V C _) := M
  clear A M T hVk
  conv => arg 2; whnf
  go_wp2_with fail
  go_end0
  refine ⟨rfl, ?_, HA.out.bel⟩
  rw [Hs.out]
  exact ⟨_, _, _, HM.out⟩
end Go.Proofs.YtnknnncehcofnaaGreatDoor

namespace Go.Proofs.YtnknnncehcofnaaGreatDoor
open Go.RowKit

set_option maxRecDepth 100000 in
set_option maxHeartbeats 3200000 in
theorem tailJump {p : List FnM} {s : StM} {low : List FrM} {f : FrM} {i j : Nat} {hs : List Int} {op x : Int} {st v : List Int} {B m b off cap bp op0 capp P Q : Nat} {v' : Value} {w W : World} (A : Sw p s low f i j hs op x st v B m b off cap bp op0 capp P Q v' w W) (hO : op = 30)
    (c3 c6 c8 c9 c10 c11 c12 c13 c14 c15 c16 c17 c18 c19 c20 c21 c22 c23 c24 c25 c26 c27 c28 c29 c30 c31 c32 c33 c34 c35 c36 c37 c38 c39 c40 c41 c42 c43 c44 c45 c46 c47 c48 c49 c50 c51 c52 c53 c54 c55 c56 c57 c58 c59 c60 c61 c62 c63 c64 c65 c66 c67 c68 c69 c70 c71 c72 c73 c74 c75 c76 c77 c79 c80 c81 c82 c83 c84 c85 c86 c87 c88 c89 c90 c91 c92 c93 c94 c95 c96 c97 c98 c99 c100 c101 c102 c103 c104 c105 c106 c107 c108 c109 c110 c111 c112 c113 c114 c115 c116 c117 c118 c119 c120 c121 c122 c123 c124 c125 c126 c127 c128 c129 c130 c131 c132 c133 c134 c135 c136 c137 c138 c139 c140 c141 c142 c143 c144 c145 c146 c147 c148 c149 c150 c151 c152 c153 c154 c155 c156 c157 c158 c159 c160 c161 c162 c163 c164 c165 c166 c167 c168 c169 c170 c171 c172 c173 c174 c175 c176 c177 c178 c179 c180 c181 c182 c183 c184 c185 c186 c187 c188 c189 c190 c191 c192 c193 c194 c195 c196 c197 c198 c199 c200 c201 c202 c203 c204 c205 c206 c207 c208 c209 c210 c211 c212 c213 c214 c215 c216 c217 c218 c219 c220 c221 c222 c223 c224 c225 c226 c227 c228 c229 c230 c231 c232 c233 c234 c235 c236 c237 c238 c239 c240 c241 c242 c243 c244 c245 c246 c247 c248 c249 c250 c251 c252 c253 c254 c255 c256 c257 c258 c259 c260 c261 c262 c263 c264 c265 c266 c267 c268 c269 c270 c271 c272 c273 c274 c275 c276 c277 c278 c279 : Value) :
    Code.wp Tryz.prog swBlock (bodyPost Tryz.prog Tryz.f56 fun e w' => MacZT B m (stepM p s) (.tuple #[]) w w' e) ⟨#[.agg #[.slice (some ⟨bp, op0, none⟩) p.length capp], .pointer (some ⟨m, 0, none⟩), .pointer (some ⟨P, 0, none⟩), c3, .pointer (some ⟨b, off + low.length * 4, none⟩), .pointer (some ⟨Q, 0, none⟩), c6, v', c8, c9, c10, c11, c12, c13, c14, c15, c16, c17, c18, c19, c20, c21, c22, c23, c24, c25, c26, c27, c28, c29, c30, c31, c32, c33, c34, c35, c36, c37, c38, c39, c40, c41, c42, c43, c44, c45, c46, c47, c48, c49, c50, c51, c52, c53, c54, c55, c56, c57, c58, c59, c60, c61, c62, c63, c64, c65, c66, c67, c68, c69, c70, c71, c72, c73, c74, c75, c76, c77, .int .i64 op, c79, c80, c81, c82, c83, c84, c85, c86, c87, c88, c89, c90, c91, c92, c93, c94, c95, c96, c97, c98, c99, c100, c101, c102, c103, c104, c105, c106, c107, c108, c109, c110, c111, c112, c113, c114, c115, c116, c117, c118, c119, c120, c121, c122, c123, c124, c125, c126, c127, c128, c129, c130, c131, c132, c133, c134, c135, c136, c137, c138, c139, c140, c141, c142, c143, c144, c145, c146, c147, c148, c149, c150, c151, c152, c153, c154, c155, c156, c157, c158, c159, c160, c161, c162, c163, c164, c165, c166, c167, c168, c169, c170, c171, c172, c173, c174, c175, c176, c177, c178, c179, c180, c181, c182, c183, c184, c185, c186, c187, c188, c189, c190, c191, c192, c193, c194, c195, c196, c197, c198, c199, c200, c201, c202, c203, c204, c205, c206, c207, c208, c209, c210, c211, c212, c213, c214, c215, c216, c217, c218, c219, c220, c221, c222, c223, c224, c225, c226, c227, c228, c229, c230, c231, c232, c233, c234, c235, c236, c237, c238, c239, c240, c241, c242, c243, c244, c245, c246, c247, c248, c249, c250, c251, c252, c253, c254, c255, c256, c257, c258, c259, c260, c261, c262, c263, c264, c265, c266, c267, c268, c269, c270, c271, c272, c273, c274, c275, c276, c277, c278, c279], []⟩ W := by
  subst hO
  have HA : Hid (Sw p s low f i j hs 30 x st v B m b off cap bp op0 capp P Q v' w W) := A
  obtain ⟨own, V, C, M, hf, hfree⟩ := A.mac
  have k0 := A.q0
  have k1 := A.q1
  have kp := A.qp
  obtain ⟨b', off', cap', T⟩ := M.top (low := low) (f := ⟨f.func, f.pc + 1, f.locals, st⟩) rfl
  have e := T.slice
  rw [hf] at e
  simp only [Value.slice.injEq, Option.some.injEq, Addr.mk.injEq, and_true] at e
  obtain ⟨⟨rfl, rfl⟩, -⟩ := e
  have h88 := A.S.h8
  have hsl : st.length ≤ 8 := by have := congrArg List.length A.left; rw [List.length_take] at this; omega
  obtain ⟨-, A3, cs3, hVk, -⟩ := M.stkRow (low := low) (f := ⟨f.func, f.pc + 1, f.locals, st⟩) rfl (by simp only; omega)
  have k3 := T.c3
  rw [hVk] at k3
  simp only at k3
  have kl := T.lt
  have kne := T.ne
  have kf3 := T.f3
  have kb : B ≤ W.heap.size := Nat.le_of_lt (Nat.lt_of_le_of_lt M.base M.lt)
  obtain ⟨C6, M6, b6⟩ := M.pcTop (low := low) (f := ⟨f.func, f.pc + 1, f.locals, st⟩) rfl x hf
  have H6 : Hid (MacZ B m _ _ ∧ Below B W _) := ⟨⟨_, _, _, M6⟩, b6⟩
  have k4 := T.c1
  have kf1 := T.f1
  clear M6 b6
  have Hs : Hid (stepM p s = ⟨low ++ [⟨f.func, x, f.locals, st⟩], s.heap, s.out, s.fuel - 1, s.done, s.value, s.trap⟩) := by
    obtain ⟨e1, e2, e3⟩ := A.S.top
    show stepM p s = _
    unfold stepM
    dsimp only
    rw [e1, e3, A.hop]
    simp only
    rw [← A.cut, ← A.left, ← A.taken]
    simp [withM, e2]
  have hbel := A.bel
  clear A M T hVk hfree
  conv => arg 2; whnf
  go_wp2_with fail
  go_end0
  refine ⟨rfl, ?_, hbel.trans H6.out.2⟩
  rw [Hs.out]
  exact H6.out.1
end Go.Proofs.YtnknnncehcofnaaGreatDoor

namespace Go.Proofs.YtnknnncehcofnaaGreatDoor
open Go.RowKit

set_option maxRecDepth 100000 in
set_option maxHeartbeats 3200000 in
theorem tailJz {p : List FnM} {s : StM} {low : List FrM} {f : FrM} {i j : Nat} {hs : List Int} {op x : Int} {st v : List Int} {B m b off cap bp op0 capp P Q : Nat} {v' : Value} {w W : World} (A : Sw p s low f i j hs op x st v B m b off cap bp op0 capp P Q v' w W) (hO : op = 31)
    (c3 c6 c8 c9 c10 c11 c12 c13 c14 c15 c16 c17 c18 c19 c20 c21 c22 c23 c24 c25 c26 c27 c28 c29 c30 c31 c32 c33 c34 c35 c36 c37 c38 c39 c40 c41 c42 c43 c44 c45 c46 c47 c48 c49 c50 c51 c52 c53 c54 c55 c56 c57 c58 c59 c60 c61 c62 c63 c64 c65 c66 c67 c68 c69 c70 c71 c72 c73 c74 c75 c76 c77 c79 c80 c81 c82 c83 c84 c85 c86 c87 c88 c89 c90 c91 c92 c93 c94 c95 c96 c97 c98 c99 c100 c101 c102 c103 c104 c105 c106 c107 c108 c109 c110 c111 c112 c113 c114 c115 c116 c117 c118 c119 c120 c121 c122 c123 c124 c125 c126 c127 c128 c129 c130 c131 c132 c133 c134 c135 c136 c137 c138 c139 c140 c141 c142 c143 c144 c145 c146 c147 c148 c149 c150 c151 c152 c153 c154 c155 c156 c157 c158 c159 c160 c161 c162 c163 c164 c165 c166 c167 c168 c169 c170 c171 c172 c173 c174 c175 c176 c177 c178 c179 c180 c181 c182 c183 c184 c185 c186 c187 c188 c189 c190 c191 c192 c193 c194 c195 c196 c197 c198 c199 c200 c201 c202 c203 c204 c205 c206 c207 c208 c209 c210 c211 c212 c213 c214 c215 c216 c217 c218 c219 c220 c221 c222 c223 c224 c225 c226 c227 c228 c229 c230 c231 c232 c233 c234 c235 c236 c237 c238 c239 c240 c241 c242 c243 c244 c245 c246 c247 c248 c249 c250 c251 c252 c253 c254 c255 c256 c257 c258 c259 c260 c261 c262 c263 c264 c265 c266 c267 c268 c269 c270 c271 c272 c273 c274 c275 c276 c277 c278 c279 : Value) :
    Code.wp Tryz.prog swBlock (bodyPost Tryz.prog Tryz.f56 fun e w' => MacZT B m (stepM p s) (.tuple #[]) w w' e) ⟨#[.agg #[.slice (some ⟨bp, op0, none⟩) p.length capp], .pointer (some ⟨m, 0, none⟩), .pointer (some ⟨P, 0, none⟩), c3, .pointer (some ⟨b, off + low.length * 4, none⟩), .pointer (some ⟨Q, 0, none⟩), c6, v', c8, c9, c10, c11, c12, c13, c14, c15, c16, c17, c18, c19, c20, c21, c22, c23, c24, c25, c26, c27, c28, c29, c30, c31, c32, c33, c34, c35, c36, c37, c38, c39, c40, c41, c42, c43, c44, c45, c46, c47, c48, c49, c50, c51, c52, c53, c54, c55, c56, c57, c58, c59, c60, c61, c62, c63, c64, c65, c66, c67, c68, c69, c70, c71, c72, c73, c74, c75, c76, c77, .int .i64 op, c79, c80, c81, c82, c83, c84, c85, c86, c87, c88, c89, c90, c91, c92, c93, c94, c95, c96, c97, c98, c99, c100, c101, c102, c103, c104, c105, c106, c107, c108, c109, c110, c111, c112, c113, c114, c115, c116, c117, c118, c119, c120, c121, c122, c123, c124, c125, c126, c127, c128, c129, c130, c131, c132, c133, c134, c135, c136, c137, c138, c139, c140, c141, c142, c143, c144, c145, c146, c147, c148, c149, c150, c151, c152, c153, c154, c155, c156, c157, c158, c159, c160, c161, c162, c163, c164, c165, c166, c167, c168, c169, c170, c171, c172, c173, c174, c175, c176, c177, c178, c179, c180, c181, c182, c183, c184, c185, c186, c187, c188, c189, c190, c191, c192, c193, c194, c195, c196, c197, c198, c199, c200, c201, c202, c203, c204, c205, c206, c207, c208, c209, c210, c211, c212, c213, c214, c215, c216, c217, c218, c219, c220, c221, c222, c223, c224, c225, c226, c227, c228, c229, c230, c231, c232, c233, c234, c235, c236, c237, c238, c239, c240, c241, c242, c243, c244, c245, c246, c247, c248, c249, c250, c251, c252, c253, c254, c255, c256, c257, c258, c259, c260, c261, c262, c263, c264, c265, c266, c267, c268, c269, c270, c271, c272, c273, c274, c275, c276, c277, c278, c279], []⟩ W := by
  subst hO
  obtain ⟨a, rfl⟩ : ∃ a, v = [a] := ⟨_, list1 (by have h := A.many; rw [takes_other p 31 x (by omega), takes_row1 31 (by omega)] at h; omega)⟩
  have HA : Hid (Sw p s low f i j hs 31 x st [a] B m b off cap bp op0 capp P Q v' w W) := A
  obtain ⟨own, V, C, M, hf, hfree⟩ := A.mac
  have k0 := A.q0
  have k1 := A.q1
  have kp := A.qp
  obtain ⟨b', off', cap', T⟩ := M.top (low := low) (f := ⟨f.func, f.pc + 1, f.locals, st⟩) rfl
  have e := T.slice
  rw [hf] at e
  simp only [Value.slice.injEq, Option.some.injEq, Addr.mk.injEq, and_true] at e
  obtain ⟨⟨rfl, rfl⟩, -⟩ := e
  have h88 := A.S.h8
  have hsl : st.length ≤ 8 := by have := congrArg List.length A.left; rw [List.length_take] at this; omega
  obtain ⟨-, A3, cs3, hVk, -⟩ := M.stkRow (low := low) (f := ⟨f.func, f.pc + 1, f.locals, st⟩) rfl (by simp only; omega)
  have k3 := T.c3
  rw [hVk] at k3
  simp only at k3
  have kl := T.lt
  have kne := T.ne
  have kf3 := T.f3
  have kb : B ≤ W.heap.size := Nat.le_of_lt (Nat.lt_of_le_of_lt M.base M.lt)
  have hr := A.row
  obtain ⟨Av, cv, hvf⟩ := hr.form
  subst hvf
  obtain ⟨b0, o0, e0, -, hl0, kv⟩ := hr.at 0 (by simp)
  subst e0
  simp only [List.getElem_cons_zero, Nat.add_zero] at kv
  clear hr
  by_cases ha : a = 0
  · subst ha
    obtain ⟨C6, M6, b6⟩ := M.pcTop (low := low) (f := ⟨f.func, f.pc + 1, f.locals, st⟩) rfl x hf
    have H6 : Hid (MacZ B m _ _ ∧ Below B W _) := ⟨⟨_, _, _, M6⟩, b6⟩
    have k4 := T.c1
    have kf1 := T.f1
    clear M6 b6
    have Hs : Hid (stepM p s = ⟨low ++ [⟨f.func, x, f.locals, st⟩], s.heap, s.out, s.fuel - 1, s.done, s.value, s.trap⟩) := by
      obtain ⟨e1, e2, e3⟩ := A.S.top
      show stepM p s = _
      unfold stepM
      dsimp only
      rw [e1, e3, A.hop]
      simp only
      rw [← A.cut, ← A.left, ← A.taken]
      simp [withM, e2]
    have hbel := A.bel
    clear A M T hVk hfree
    conv => arg 2; whnf
    go_wp2_with fail
    go_end0
    refine ⟨rfl, ?_, hbel.trans H6.out.2⟩
    rw [Hs.out]
    exact H6.out.1
  · have ha2 : (a == 0) = false := by simpa using ha
    have Hs : Hid (stepM p s = ⟨low ++ [⟨f.func, f.pc + 1, f.locals, st⟩], s.heap, s.out, s.fuel - 1, s.done, s.value, s.trap⟩) := by
      obtain ⟨e1, e2, e3⟩ := A.S.top
      show stepM p s = _
      unfold stepM
      dsimp only
      rw [e1, e3, A.hop]
      simp only
      rw [← A.cut, ← A.left, ← A.taken]
      simp [withM, e2, ha]
    have HM : Hid (Mac B m 0 noPr own W V C _) := M
    clear A M T hVk
    conv => arg 2; whnf
    go_wp2_with fail
    go_end0
    refine ⟨rfl, ?_, HA.out.bel⟩
    rw [Hs.out]
    exact ⟨_, _, _, HM.out⟩
end Go.Proofs.YtnknnncehcofnaaGreatDoor

namespace Go.Proofs.YtnknnncehcofnaaGreatDoor
open Go.RowKit

set_option maxRecDepth 100000 in
set_option maxHeartbeats 3200000 in
theorem tailOut {p : List FnM} {s : StM} {low : List FrM} {f : FrM} {i j : Nat} {hs : List Int} {op x : Int} {st v : List Int} {B m b off cap bp op0 capp P Q : Nat} {v' : Value} {w W : World} (A : Sw p s low f i j hs op x st v B m b off cap bp op0 capp P Q v' w W) (hO : op = 38)
    (c3 c6 c8 c9 c10 c11 c12 c13 c14 c15 c16 c17 c18 c19 c20 c21 c22 c23 c24 c25 c26 c27 c28 c29 c30 c31 c32 c33 c34 c35 c36 c37 c38 c39 c40 c41 c42 c43 c44 c45 c46 c47 c48 c49 c50 c51 c52 c53 c54 c55 c56 c57 c58 c59 c60 c61 c62 c63 c64 c65 c66 c67 c68 c69 c70 c71 c72 c73 c74 c75 c76 c77 c79 c80 c81 c82 c83 c84 c85 c86 c87 c88 c89 c90 c91 c92 c93 c94 c95 c96 c97 c98 c99 c100 c101 c102 c103 c104 c105 c106 c107 c108 c109 c110 c111 c112 c113 c114 c115 c116 c117 c118 c119 c120 c121 c122 c123 c124 c125 c126 c127 c128 c129 c130 c131 c132 c133 c134 c135 c136 c137 c138 c139 c140 c141 c142 c143 c144 c145 c146 c147 c148 c149 c150 c151 c152 c153 c154 c155 c156 c157 c158 c159 c160 c161 c162 c163 c164 c165 c166 c167 c168 c169 c170 c171 c172 c173 c174 c175 c176 c177 c178 c179 c180 c181 c182 c183 c184 c185 c186 c187 c188 c189 c190 c191 c192 c193 c194 c195 c196 c197 c198 c199 c200 c201 c202 c203 c204 c205 c206 c207 c208 c209 c210 c211 c212 c213 c214 c215 c216 c217 c218 c219 c220 c221 c222 c223 c224 c225 c226 c227 c228 c229 c230 c231 c232 c233 c234 c235 c236 c237 c238 c239 c240 c241 c242 c243 c244 c245 c246 c247 c248 c249 c250 c251 c252 c253 c254 c255 c256 c257 c258 c259 c260 c261 c262 c263 c264 c265 c266 c267 c268 c269 c270 c271 c272 c273 c274 c275 c276 c277 c278 c279 : Value) :
    Code.wp Tryz.prog swBlock (bodyPost Tryz.prog Tryz.f56 fun e w' => MacZT B m (stepM p s) (.tuple #[]) w w' e) ⟨#[.agg #[.slice (some ⟨bp, op0, none⟩) p.length capp], .pointer (some ⟨m, 0, none⟩), .pointer (some ⟨P, 0, none⟩), c3, .pointer (some ⟨b, off + low.length * 4, none⟩), .pointer (some ⟨Q, 0, none⟩), c6, v', c8, c9, c10, c11, c12, c13, c14, c15, c16, c17, c18, c19, c20, c21, c22, c23, c24, c25, c26, c27, c28, c29, c30, c31, c32, c33, c34, c35, c36, c37, c38, c39, c40, c41, c42, c43, c44, c45, c46, c47, c48, c49, c50, c51, c52, c53, c54, c55, c56, c57, c58, c59, c60, c61, c62, c63, c64, c65, c66, c67, c68, c69, c70, c71, c72, c73, c74, c75, c76, c77, .int .i64 op, c79, c80, c81, c82, c83, c84, c85, c86, c87, c88, c89, c90, c91, c92, c93, c94, c95, c96, c97, c98, c99, c100, c101, c102, c103, c104, c105, c106, c107, c108, c109, c110, c111, c112, c113, c114, c115, c116, c117, c118, c119, c120, c121, c122, c123, c124, c125, c126, c127, c128, c129, c130, c131, c132, c133, c134, c135, c136, c137, c138, c139, c140, c141, c142, c143, c144, c145, c146, c147, c148, c149, c150, c151, c152, c153, c154, c155, c156, c157, c158, c159, c160, c161, c162, c163, c164, c165, c166, c167, c168, c169, c170, c171, c172, c173, c174, c175, c176, c177, c178, c179, c180, c181, c182, c183, c184, c185, c186, c187, c188, c189, c190, c191, c192, c193, c194, c195, c196, c197, c198, c199, c200, c201, c202, c203, c204, c205, c206, c207, c208, c209, c210, c211, c212, c213, c214, c215, c216, c217, c218, c219, c220, c221, c222, c223, c224, c225, c226, c227, c228, c229, c230, c231, c232, c233, c234, c235, c236, c237, c238, c239, c240, c241, c242, c243, c244, c245, c246, c247, c248, c249, c250, c251, c252, c253, c254, c255, c256, c257, c258, c259, c260, c261, c262, c263, c264, c265, c266, c267, c268, c269, c270, c271, c272, c273, c274, c275, c276, c277, c278, c279], []⟩ W := by
  subst hO
  obtain ⟨a, rfl⟩ : ∃ a, v = [a] := ⟨_, list1 (by have h := A.many; rw [takes_other p 38 x (by omega), takes_row1 38 (by omega)] at h; omega)⟩
  have HA : Hid (Sw p s low f i j hs 38 x st [a] B m b off cap bp op0 capp P Q v' w W) := A
  obtain ⟨own, V, C, M, hf, hfree⟩ := A.mac
  have k0 := A.q0
  have k1 := A.q1
  have kp := A.qp
  obtain ⟨b', off', cap', T⟩ := M.top (low := low) (f := ⟨f.func, f.pc + 1, f.locals, st⟩) rfl
  have e := T.slice
  rw [hf] at e
  simp only [Value.slice.injEq, Option.some.injEq, Addr.mk.injEq, and_true] at e
  obtain ⟨⟨rfl, rfl⟩, -⟩ := e
  have h88 := A.S.h8
  have hsl : st.length ≤ 8 := by have := congrArg List.length A.left; rw [List.length_take] at this; omega
  obtain ⟨-, A3, cs3, hVk, -⟩ := M.stkRow (low := low) (f := ⟨f.func, f.pc + 1, f.locals, st⟩) rfl (by simp only; omega)
  have k3 := T.c3
  rw [hVk] at k3
  simp only at k3
  have kl := T.lt
  have kne := T.ne
  have kf3 := T.f3
  have kb : B ≤ W.heap.size := Nat.le_of_lt (Nat.lt_of_le_of_lt M.base M.lt)
  have hr := A.row
  obtain ⟨Av, cv, hvf⟩ := hr.form
  subst hvf
  obtain ⟨b0, o0, e0, -, hl0, kv⟩ := hr.at 0 (by simp)
  subst e0
  simp only [List.getElem_cons_zero, Nat.add_zero] at kv
  clear hr
  obtain ⟨Ao, co, ko, hout⟩ := out_at M (by simp only; have := A.S.out; have := A.S.fuel; omega) a
  simp only at ko hout
  have kmz := M.lt
  have kf2 := M.zthaw 2 (by omega)
  have hal : Below W.heap.size W (W.drew.alloc (.cells #[.int .i64 a] 2)) := (Below.refl _ _).drew.alloc (Nat.le_refl _) _
  obtain ⟨b1, off1, cap1, w1, hrun, ⟨⟨ux, d0⟩, d1, d2⟩, H1⟩ := hout _ ⟨W.heap.size, 0, none⟩ hal (box_new W.drew #[.int .i64 a] 2).at0
  clear hout hal
  have Hs : Hid (stepM p s = ⟨low ++ [⟨f.func, f.pc + 1, f.locals, st⟩], s.heap, s.out ++ [a], s.fuel - 1, s.done, s.value, s.trap⟩) := by
    obtain ⟨e1, e2, e3⟩ := A.S.top
    show stepM p s = _
    unfold stepM
    dsimp only
    rw [e1, e3, A.hop]
    simp only
    rw [← A.cut, ← A.left, ← A.taken]
    simp [withM, e2]
  have hbel := A.bel
  clear A M T hVk hfree
  conv => arg 2; whnf
  go_wp2_with fail
  go_region_law (refine step_append_run rfl (.tmp 272) (.tmp 276) 28 rfl (.slice Ao s.out.length co) (.slice (some ⟨W.heap.size, 0, none⟩) 1 1) (by simp [Act.eval]) (by simp [Act.eval]) _ _ hrun ?_)
  all_goals
    go_wp2_with fail
    go_end0
    refine ⟨rfl, ?_, hbel.trans H1.out.2⟩
    rw [Hs.out]
    exact H1.out.1
end Go.Proofs.YtnknnncehcofnaaGreatDoor
