/- spec.l06Do at every op that comes to it. spec.l06Step: where its switch begins. spec.l06Step: a branch of its switch. spec.l06Step: a branch of its switch. spec.l06Step: a branch of its switch. spec.l06Step: a branch of its switch. -/
import Derived.Test.YtnknnncehcofnaaGreatDoorJ37SpD
import Derived.Test.YtnknnncehcofnaaGreatDoorJ38SpG
import Derived.Test.YtnknnncehcofnaaGreatDoorJ26MacH
import Derived.Test.YtnknnncehcofnaaGreatDoorJ36MacX
import Derived.Test.YtnknnncehcofnaaGreatDoorJ19StepL
import Derived.Test.YtnknnncehcofnaaGreatDoorCopyU
import Derived.Deep.RegionLaw
import Derived.Deep.RegionHeld3
namespace Go.Proofs.YtnknnncehcofnaaGreatDoor
open Go.RowKit

theorem specDo {pr : Pr} (B m : Nat) (s : StM) (op : Int) (v : List Int) (U : Nat) (vv : Value) (w : World) (hM : MacY pr B m w s) (hv : IRow U w vv v)
    (hop : (10 ≤ op ∧ op ≤ 29) ∨ (34 ≤ op ∧ op ≤ 37)) (hl : (v.length : Int) = (opRow op).2.2.1) (hh : s.heap.length ≤ 30) :
    Calls Tryz.prog 112 #[.int .i64 op, vv, .pointer (some ⟨m, 1, none⟩)] w fun e w' => DoT pr B m s op v w w' e := by
  by_cases h1 : 10 ≤ op ∧ op ≤ 23
  · obtain ⟨a, b, rfl⟩ : ∃ a b, v = [a, b] := ⟨_, _, list2 (by rw [takes_row2 op (.inl h1)] at hl; omega)⟩
    exact specDoBin B m s op a b U vv w hM hv h1
  by_cases h2 : 24 ≤ op ∧ op ≤ 29
  · obtain ⟨a, rfl⟩ : ∃ a, v = [a] := ⟨_, list1 (by rw [takes_row1 op (.inr (.inl h2))] at hl; omega)⟩
    exact specDoUn B m s op a U vv w hM hv h2
  by_cases h3 : op = 34
  · subst h3
    obtain ⟨a, rfl⟩ : ∃ a, v = [a] := ⟨_, list1 (by rw [takes_row1 34 (by omega)] at hl; omega)⟩
    exact specDoNew B m s a U vv w hM hv (by omega)
  by_cases h4 : op = 35
  · subst h4
    obtain ⟨a, b, rfl⟩ : ∃ a b, v = [a, b] := ⟨_, _, list2 (by rw [takes_row2 35 (by omega)] at hl; omega)⟩
    exact specDoGet B m s a b U vv w hM hv (by omega)
  by_cases h5 : op = 36
  · subst h5
    obtain ⟨a, b, c, rfl⟩ : ∃ a b c, v = [a, b, c] := ⟨_, _, _, list3 (by have h6 : (opRow 36).2.2.1 = 3 := rfl; omega)⟩
    exact specDoSet B m s a b c U vv w hM hv (by omega)
  obtain rfl : op = 37 := by omega
  obtain ⟨a, rfl⟩ : ∃ a, v = [a] := ⟨_, list1 (by rw [takes_row1 37 (by omega)] at hl; omega)⟩
  exact specDoLen B m s a U vv w hM hv (by omega)
end Go.Proofs.YtnknnncehcofnaaGreatDoor

namespace Go.Proofs.YtnknnncehcofnaaGreatDoor
open Go.RowKit

/-- the first block of a function's text: the switch -/
def blockOf : Code → Option Code
  | .block i c => some (.block i c)
  | .seq a b => match blockOf a with
    | some c => some c
    | none => blockOf b
  | _ => none

noncomputable def swBlock : Code := ((Tryz.f56.body.bind blockOf).getD .skip)

/-- what is known where the switch begins: what is taken is v, what is left st; the place is the next one already -/
structure Sw (p : List FnM) (s : StM) (low : List FrM) (f : FrM) (i j : Nat) (hs : List Int) (op x : Int) (st v : List Int) (B m b off cap bp op0 capp P Q : Nat) (v' : Value) (w W : World) : Prop where
  S : Stand p s low f i j hs
  hop : insAt (fnAt p i).code j = (op, x)
  left : st = f.stack.take st.length
  taken : v = f.stack.drop st.length
  cut : st.length = f.stack.length - (takesM p op x).toNat
  many : (v.length : Int) = takesM p op x
  mac : ∃ own V C, Mac B m 0 noPr own W V C ⟨low ++ [⟨f.func, f.pc + 1, f.locals, st⟩], s.heap, s.out, s.fuel - 1, s.done, s.value, s.trap⟩ ∧ V .fr = .slice (some ⟨b, off, none⟩) (low.length + 1) cap ∧ ∀ i, own Q i = .no
  bel : Below B w W
  q0 : W.cell? ⟨Q, 0, none⟩ = some (.int .i64 op)
  q1 : W.cell? ⟨Q, 1, none⟩ = some (.int .i64 x)
  qp : W.cell? ⟨P, 0, none⟩ = some (.slice (some ⟨bp, op0, none⟩) p.length capp)
  ql : Q < W.heap.size
  qm : Q ≠ m
  qB : B ≤ Q
  qf : ∀ i, i < 2 → W.frozen? ⟨Q, i, none⟩ = false
  pl : P < W.heap.size
  row : IRow 0 W v' v
  far : ∀ b0 o0 n c, v' = .slice (some ⟨b0, o0, none⟩) n c → v ≠ [] → b0 ≠ m ∧ b0 ≠ b
  prg : ∀ w', Below B w w' → FnRow 0 w' (.slice (some ⟨bp, op0, none⟩) p.length capp) p ∧ Tab w'
end Go.Proofs.YtnknnncehcofnaaGreatDoor

namespace Go.Proofs.YtnknnncehcofnaaGreatDoor
open Go.RowKit

set_option maxRecDepth 100000 in
set_option maxHeartbeats 3200000 in
theorem tailPush {p : List FnM} {s : StM} {low : List FrM} {f : FrM} {i j : Nat} {hs : List Int} {op x : Int} {st v : List Int} {B m b off cap bp op0 capp P Q : Nat} {v' : Value} {w W : World} (A : Sw p s low f i j hs op x st v B m b off cap bp op0 capp P Q v' w W) (hO : op = 1)
    (c3 c6 c8 c9 c10 c11 c12 c13 c14 c15 c16 c17 c18 c19 c20 c21 c22 c23 c24 c25 c26 c27 c28 c29 c30 c31 c32 c33 c34 c35 c36 c37 c38 c39 c40 c41 c42 c43 c44 c45 c46 c47 c48 c49 c50 c51 c52 c53 c54 c55 c56 c57 c58 c59 c60 c61 c62 c63 c64 c65 c66 c67 c68 c69 c70 c71 c72 c73 c74 c75 c76 c77 c79 c80 c81 c82 c83 c84 c85 c86 c87 c88 c89 c90 c91 c92 c93 c94 c95 c96 c97 c98 c99 c100 c101 c102 c103 c104 c105 c106 c107 c108 c109 c110 c111 c112 c113 c114 c115 c116 c117 c118 c119 c120 c121 c122 c123 c124 c125 c126 c127 c128 c129 c130 c131 c132 c133 c134 c135 c136 c137 c138 c139 c140 c141 c142 c143 c144 c145 c146 c147 c148 c149 c150 c151 c152 c153 c154 c155 c156 c157 c158 c159 c160 c161 c162 c163 c164 c165 c166 c167 c168 c169 c170 c171 c172 c173 c174 c175 c176 c177 c178 c179 c180 c181 c182 c183 c184 c185 c186 c187 c188 c189 c190 c191 c192 c193 c194 c195 c196 c197 c198 c199 c200 c201 c202 c203 c204 c205 c206 c207 c208 c209 c210 c211 c212 c213 c214 c215 c216 c217 c218 c219 c220 c221 c222 c223 c224 c225 c226 c227 c228 c229 c230 c231 c232 c233 c234 c235 c236 c237 c238 c239 c240 c241 c242 c243 c244 c245 c246 c247 c248 c249 c250 c251 c252 c253 c254 c255 c256 c257 c258 c259 c260 c261 c262 c263 c264 c265 c266 c267 c268 c269 c270 c271 c272 c273 c274 c275 c276 c277 c278 c279 : Value) :
    Code.wp Tryz.prog swBlock (bodyPost Tryz.prog Tryz.f56 fun e w' => MacZT B m (stepM p s) (.tuple #[]) w w' e) ⟨#[.agg #[.slice (some ⟨bp, op0, none⟩) p.length capp], .pointer (some ⟨m, 0, none⟩), .pointer (some ⟨P, 0, none⟩), c3, .pointer (some ⟨b, off + low.length * 4, none⟩), .pointer (some ⟨Q, 0, none⟩), c6, v', c8, c9, c10, c11, c12, c13, c14, c15, c16, c17, c18, c19, c20, c21, c22, c23, c24, c25, c26, c27, c28, c29, c30, c31, c32, c33, c34, c35, c36, c37, c38, c39, c40, c41, c42, c43, c44, c45, c46, c47, c48, c49, c50, c51, c52, c53, c54, c55, c56, c57, c58, c59, c60, c61, c62, c63, c64, c65, c66, c67, c68, c69, c70, c71, c72, c73, c74, c75, c76, c77, .int .i64 op, c79, c80, c81, c82, c83, c84, c85, c86, c87, c88, c89, c90, c91, c92, c93, c94, c95, c96, c97, c98, c99, c100, c101, c102, c103, c104, c105, c106, c107, c108, c109, c110, c111, c112, c113, c114, c115, c116, c117, c118, c119, c120, c121, c122, c123, c124, c125, c126, c127, c128, c129, c130, c131, c132, c133, c134, c135, c136, c137, c138, c139, c140, c141, c142, c143, c144, c145, c146, c147, c148, c149, c150, c151, c152, c153, c154, c155, c156, c157, c158, c159, c160, c161, c162, c163, c164, c165, c166, c167, c168, c169, c170, c171, c172, c173, c174, c175, c176, c177, c178, c179, c180, c181, c182, c183, c184, c185, c186, c187, c188, c189, c190, c191, c192, c193, c194, c195, c196, c197, c198, c199, c200, c201, c202, c203, c204, c205, c206, c207, c208, c209, c210, c211, c212, c213, c214, c215, c216, c217, c218, c219, c220, c221, c222, c223, c224, c225, c226, c227, c228, c229, c230, c231, c232, c233, c234, c235, c236, c237, c238, c239, c240, c241, c242, c243, c244, c245, c246, c247, c248, c249, c250, c251, c252, c253, c254, c255, c256, c257, c258, c259, c260, c261, c262, c263, c264, c265, c266, c267, c268, c269, c270, c271, c272, c273, c274, c275, c276, c277, c278, c279], []⟩ W := by
  subst hO
  have HA : Hid (Sw p s low f i j hs 1 x st v B m b off cap bp op0 capp P Q v' w W) := A
  obtain ⟨own, V, C, M, hf, hfree⟩ := A.mac
  have k0 := A.q0
  have k1 := A.q1
  have kp := A.qp
  obtain ⟨b', off', cap', T⟩ := M.top (low := low) (f := ⟨f.func, f.pc + 1, f.locals, st⟩) rfl
  have e := T.slice
  rw [hf] at e
  simp only [Value.slice.injEq, Option.some.injEq, Addr.mk.injEq, and_true] at e
  obtain ⟨⟨rfl, rfl⟩, -⟩ := e
  have h88 := A.S.h8
  have hsl : st.length ≤ 8 := by have := congrArg List.length A.left; rw [List.length_take] at this; omega
  obtain ⟨-, A3, cs3, hVk, -⟩ := M.stkRow (low := low) (f := ⟨f.func, f.pc + 1, f.locals, st⟩) rfl (by simp only; omega)
  have k3 := T.c3
  rw [hVk] at k3
  simp only at k3
  have kl := T.lt
  have kne := T.ne
  have kf3 := T.f3
  have kb : B ≤ W.heap.size := Nat.le_of_lt (Nat.lt_of_le_of_lt M.base M.lt)
  have hput := put_at M (k := st.length) (g := ⟨f.func, f.pc + 1, f.locals, st⟩) rfl hf rfl k3 (by omega) [x] (by simp) (by simp)
  have hal : Below W.heap.size W (W.drew.alloc (.cells #[.int .i64 x] 2)) := (Below.refl _ _).drew.alloc (Nat.le_refl _) _
  obtain ⟨b1, off1, cap1, w1, hrun, ⟨⟨ux, d0⟩, d1, d2⟩, H1⟩ := hput _ ⟨W.heap.size, 0, none⟩ hal (fun q hq => by
    have hX := box_new W.drew #[.int .i64 x] 2
    match q, hq with
    | 0, _ => exact hX.at0)
  simp only [List.length_cons, List.length_nil, Nat.zero_add] at hrun H1
  clear hput hal
  have Hs : Hid (stepM p s = ⟨low ++ [⟨f.func, f.pc + 1, f.locals, st ++ [x]⟩], s.heap, s.out, s.fuel - 1, s.done, s.value, s.trap⟩) := by
    obtain ⟨e1, e2, e3⟩ := A.S.top
    show stepM p s = _
    unfold stepM
    dsimp only
    rw [e1, e3, A.hop]
    simp only
    rw [← A.cut, ← A.left, ← A.taken]
    simp [withM, e2]
  have hbel := A.bel
  clear A M T hVk hfree
  conv => arg 2; whnf
  go_wp2_with fail
  go_region_law (refine step_append_run rfl (.tmp 113) (.tmp 116) 28 rfl (.slice A3 st.length cs3) (.slice (some ⟨W.heap.size, 0, none⟩) 1 1) (by simp [Act.eval]) (by simp [Act.eval]) _ _ hrun ?_)
  all_goals
    go_wp2_with fail
    go_end0
    refine ⟨rfl, ?_, hbel.trans H1.out.2⟩
    rw [Hs.out]
    exact H1.out.1
end Go.Proofs.YtnknnncehcofnaaGreatDoor

namespace Go.Proofs.YtnknnncehcofnaaGreatDoor
open Go.RowKit

set_option maxRecDepth 100000 in
set_option maxHeartbeats 3200000 in
theorem tailLoad {p : List FnM} {s : StM} {low : List FrM} {f : FrM} {i j : Nat} {hs : List Int} {op x : Int} {st v : List Int} {B m b off cap bp op0 capp P Q : Nat} {v' : Value} {w W : World} (A : Sw p s low f i j hs op x st v B m b off cap bp op0 capp P Q v' w W) (hO : op = 2)
    (c3 c6 c8 c9 c10 c11 c12 c13 c14 c15 c16 c17 c18 c19 c20 c21 c22 c23 c24 c25 c26 c27 c28 c29 c30 c31 c32 c33 c34 c35 c36 c37 c38 c39 c40 c41 c42 c43 c44 c45 c46 c47 c48 c49 c50 c51 c52 c53 c54 c55 c56 c57 c58 c59 c60 c61 c62 c63 c64 c65 c66 c67 c68 c69 c70 c71 c72 c73 c74 c75 c76 c77 c79 c80 c81 c82 c83 c84 c85 c86 c87 c88 c89 c90 c91 c92 c93 c94 c95 c96 c97 c98 c99 c100 c101 c102 c103 c104 c105 c106 c107 c108 c109 c110 c111 c112 c113 c114 c115 c116 c117 c118 c119 c120 c121 c122 c123 c124 c125 c126 c127 c128 c129 c130 c131 c132 c133 c134 c135 c136 c137 c138 c139 c140 c141 c142 c143 c144 c145 c146 c147 c148 c149 c150 c151 c152 c153 c154 c155 c156 c157 c158 c159 c160 c161 c162 c163 c164 c165 c166 c167 c168 c169 c170 c171 c172 c173 c174 c175 c176 c177 c178 c179 c180 c181 c182 c183 c184 c185 c186 c187 c188 c189 c190 c191 c192 c193 c194 c195 c196 c197 c198 c199 c200 c201 c202 c203 c204 c205 c206 c207 c208 c209 c210 c211 c212 c213 c214 c215 c216 c217 c218 c219 c220 c221 c222 c223 c224 c225 c226 c227 c228 c229 c230 c231 c232 c233 c234 c235 c236 c237 c238 c239 c240 c241 c242 c243 c244 c245 c246 c247 c248 c249 c250 c251 c252 c253 c254 c255 c256 c257 c258 c259 c260 c261 c262 c263 c264 c265 c266 c267 c268 c269 c270 c271 c272 c273 c274 c275 c276 c277 c278 c279 : Value) :
    Code.wp Tryz.prog swBlock (bodyPost Tryz.prog Tryz.f56 fun e w' => MacZT B m (stepM p s) (.tuple #[]) w w' e) ⟨#[.agg #[.slice (some ⟨bp, op0, none⟩) p.length capp], .pointer (some ⟨m, 0, none⟩), .pointer (some ⟨P, 0, none⟩), c3, .pointer (some ⟨b, off + low.length * 4, none⟩), .pointer (some ⟨Q, 0, none⟩), c6, v', c8, c9, c10, c11, c12, c13, c14, c15, c16, c17, c18, c19, c20, c21, c22, c23, c24, c25, c26, c27, c28, c29, c30, c31, c32, c33, c34, c35, c36, c37, c38, c39, c40, c41, c42, c43, c44, c45, c46, c47, c48, c49, c50, c51, c52, c53, c54, c55, c56, c57, c58, c59, c60, c61, c62, c63, c64, c65, c66, c67, c68, c69, c70, c71, c72, c73, c74, c75, c76, c77, .int .i64 op, c79, c80, c81, c82, c83, c84, c85, c86, c87, c88, c89, c90, c91, c92, c93, c94, c95, c96, c97, c98, c99, c100, c101, c102, c103, c104, c105, c106, c107, c108, c109, c110, c111, c112, c113, c114, c115, c116, c117, c118, c119, c120, c121, c122, c123, c124, c125, c126, c127, c128, c129, c130, c131, c132, c133, c134, c135, c136, c137, c138, c139, c140, c141, c142, c143, c144, c145, c146, c147, c148, c149, c150, c151, c152, c153, c154, c155, c156, c157, c158, c159, c160, c161, c162, c163, c164, c165, c166, c167, c168, c169, c170, c171, c172, c173, c174, c175, c176, c177, c178, c179, c180, c181, c182, c183, c184, c185, c186, c187, c188, c189, c190, c191, c192, c193, c194, c195, c196, c197, c198, c199, c200, c201, c202, c203, c204, c205, c206, c207, c208, c209, c210, c211, c212, c213, c214, c215, c216, c217, c218, c219, c220, c221, c222, c223, c224, c225, c226, c227, c228, c229, c230, c231, c232, c233, c234, c235, c236, c237, c238, c239, c240, c241, c242, c243, c244, c245, c246, c247, c248, c249, c250, c251, c252, c253, c254, c255, c256, c257, c258, c259, c260, c261, c262, c263, c264, c265, c266, c267, c268, c269, c270, c271, c272, c273, c274, c275, c276, c277, c278, c279], []⟩ W := by
  subst hO
  have hins := A.S.ins
  rw [A.hop] at hins
  simp only at hins
  have hx : 0 ≤ x ∧ x < (fnAt p i).locals := by
    unfold rightM at hins
    rw [Bool.and_eq_true, if_neg (by omega), if_pos (by omega)] at hins
    exact of_decide_eq_true hins.2
  obtain ⟨y, rfl⟩ := Int.eq_ofNat_of_zero_le hx.1
  have hyl : y < f.locals.length := by have := A.S.loc; omega
  have hyi : (y : Int) < (f.locals.length : Int) := by omega
  have hl8 := A.S.loc8
  clear hins hx
  have HA : Hid (Sw p s low f i j hs 2 (y : Int) st v B m b off cap bp op0 capp P Q v' w W) := A
  obtain ⟨own, V, C, M, hf, hfree⟩ := A.mac
  have k0 := A.q0
  have k1 := A.q1
  have kp := A.qp
  obtain ⟨b', off', cap', T⟩ := M.top (low := low) (f := ⟨f.func, f.pc + 1, f.locals, st⟩) rfl
  have e := T.slice
  rw [hf] at e
  simp only [Value.slice.injEq, Option.some.injEq, Addr.mk.injEq, and_true] at e
  obtain ⟨⟨rfl, rfl⟩, -⟩ := e
  have h88 := A.S.h8
  have hsl : st.length ≤ 8 := by have := congrArg List.length A.left; rw [List.length_take] at this; omega
  obtain ⟨-, A3, cs3, hVk, -⟩ := M.stkRow (low := low) (f := ⟨f.func, f.pc + 1, f.locals, st⟩) rfl (by simp only; omega)
  have k3 := T.c3
  rw [hVk] at k3
  simp only at k3
  have kl := T.lt
  have kne := T.ne
  have kf3 := T.f3
  have kb : B ≤ W.heap.size := Nat.le_of_lt (Nat.lt_of_le_of_lt M.base M.lt)
  obtain ⟨hI2, A2, c2, hVl⟩ := M.locRow (low := low) (f := ⟨f.func, f.pc + 1, f.locals, st⟩) rfl (by simp only; omega)
  have k2 := T.c2
  rw [hVl] at k2 hI2
  simp only at k2
  obtain ⟨bl, ol, el, -, hll, kL⟩ := hI2.at y hyl
  subst el
  obtain ⟨u, hu⟩ : ∃ u, u = f.locals[y] := ⟨_, rfl⟩
  simp only at kL
  rw [← hu] at kL
  have Hu : Hid (u = f.locals[y]) := hu
  clear hI2 hVl hu
  have hput := put_at M (k := st.length) (g := ⟨f.func, f.pc + 1, f.locals, st⟩) rfl hf rfl k3 (by omega) [u] (by simp) (by simp)
  have hal : Below W.heap.size W (W.drew.alloc (.cells #[.int .i64 u] 2)) := (Below.refl _ _).drew.alloc (Nat.le_refl _) _
  obtain ⟨b1, off1, cap1, w1, hrun, ⟨⟨ux, d0⟩, d1, d2⟩, H1⟩ := hput _ ⟨W.heap.size, 0, none⟩ hal (fun q hq => by
    have hX := box_new W.drew #[.int .i64 u] 2
    match q, hq with
    | 0, _ => exact hX.at0)
  simp only [List.length_cons, List.length_nil, Nat.zero_add] at hrun H1
  have hal2 : Below W.heap.size W (W.alloc (.cells #[.int .i64 u] 2)).drew := ((Below.refl _ _).alloc (Nat.le_refl _) _).drew
  obtain ⟨b2, off2, cap2, w2, hrun2, ⟨⟨uy, d3⟩, d4, d5⟩, H2⟩ := hput _ ⟨W.heap.size, 0, none⟩ hal2 (fun q hq => by
    have hX := (box_new W #[.int .i64 u] 2).below (Below.refl _ _).drew
    match q, hq with
    | 0, _ => exact hX.at0)
  simp only [List.length_cons, List.length_nil, Nat.zero_add] at hrun2 H2
  clear hput hal hal2
  have Hs : Hid (stepM p s = ⟨low ++ [⟨f.func, f.pc + 1, f.locals, st ++ [u]⟩], s.heap, s.out, s.fuel - 1, s.done, s.value, s.trap⟩) := by
    obtain ⟨e1, e2, e3⟩ := A.S.top
    show stepM p s = _
    unfold stepM
    dsimp only
    rw [e1, e3, A.hop]
    simp only
    rw [← A.cut, ← A.left, ← A.taken]
    simp [withM, e2, Hu.out, List.getElem?_eq_getElem hyl]
  have hbel := A.bel
  clear A M T hVk hfree
  conv => arg 2; whnf
  go_wp2_with fail
  go_region_law (first | (refine step_append_run rfl (.tmp 126) (.tmp 135) 28 rfl (.slice A3 st.length cs3) (.slice (some ⟨W.heap.size, 0, none⟩) 1 1) (by simp [Act.eval]) (by simp [Act.eval]) _ _ hrun ?_) | (refine step_append_run rfl (.tmp 126) (.tmp 135) 28 rfl (.slice A3 st.length cs3) (.slice (some ⟨W.heap.size, 0, none⟩) 1 1) (by simp [Act.eval]) (by simp [Act.eval]) _ _ hrun2 ?_))
  all_goals
    go_wp2_with fail
    go_end0
    first
      | exact ⟨rfl, by rw [Hs.out]; exact H1.out.1, hbel.trans H1.out.2⟩
      | exact ⟨rfl, by rw [Hs.out]; exact H2.out.1, hbel.trans H2.out.2⟩
end Go.Proofs.YtnknnncehcofnaaGreatDoor

namespace Go.Proofs.YtnknnncehcofnaaGreatDoor
open Go.RowKit

set_option maxRecDepth 100000 in
set_option maxHeartbeats 3200000 in
theorem tailStore {p : List FnM} {s : StM} {low : List FrM} {f : FrM} {i j : Nat} {hs : List Int} {op x : Int} {st v : List Int} {B m b off cap bp op0 capp P Q : Nat} {v' : Value} {w W : World} (A : Sw p s low f i j hs op x st v B m b off cap bp op0 capp P Q v' w W) (hO : op = 3)
    (c3 c6 c8 c9 c10 c11 c12 c13 c14 c15 c16 c17 c18 c19 c20 c21 c22 c23 c24 c25 c26 c27 c28 c29 c30 c31 c32 c33 c34 c35 c36 c37 c38 c39 c40 c41 c42 c43 c44 c45 c46 c47 c48 c49 c50 c51 c52 c53 c54 c55 c56 c57 c58 c59 c60 c61 c62 c63 c64 c65 c66 c67 c68 c69 c70 c71 c72 c73 c74 c75 c76 c77 c79 c80 c81 c82 c83 c84 c85 c86 c87 c88 c89 c90 c91 c92 c93 c94 c95 c96 c97 c98 c99 c100 c101 c102 c103 c104 c105 c106 c107 c108 c109 c110 c111 c112 c113 c114 c115 c116 c117 c118 c119 c120 c121 c122 c123 c124 c125 c126 c127 c128 c129 c130 c131 c132 c133 c134 c135 c136 c137 c138 c139 c140 c141 c142 c143 c144 c145 c146 c147 c148 c149 c150 c151 c152 c153 c154 c155 c156 c157 c158 c159 c160 c161 c162 c163 c164 c165 c166 c167 c168 c169 c170 c171 c172 c173 c174 c175 c176 c177 c178 c179 c180 c181 c182 c183 c184 c185 c186 c187 c188 c189 c190 c191 c192 c193 c194 c195 c196 c197 c198 c199 c200 c201 c202 c203 c204 c205 c206 c207 c208 c209 c210 c211 c212 c213 c214 c215 c216 c217 c218 c219 c220 c221 c222 c223 c224 c225 c226 c227 c228 c229 c230 c231 c232 c233 c234 c235 c236 c237 c238 c239 c240 c241 c242 c243 c244 c245 c246 c247 c248 c249 c250 c251 c252 c253 c254 c255 c256 c257 c258 c259 c260 c261 c262 c263 c264 c265 c266 c267 c268 c269 c270 c271 c272 c273 c274 c275 c276 c277 c278 c279 : Value) :
    Code.wp Tryz.prog swBlock (bodyPost Tryz.prog Tryz.f56 fun e w' => MacZT B m (stepM p s) (.tuple #[]) w w' e) ⟨#[.agg #[.slice (some ⟨bp, op0, none⟩) p.length capp], .pointer (some ⟨m, 0, none⟩), .pointer (some ⟨P, 0, none⟩), c3, .pointer (some ⟨b, off + low.length * 4, none⟩), .pointer (some ⟨Q, 0, none⟩), c6, v', c8, c9, c10, c11, c12, c13, c14, c15, c16, c17, c18, c19, c20, c21, c22, c23, c24, c25, c26, c27, c28, c29, c30, c31, c32, c33, c34, c35, c36, c37, c38, c39, c40, c41, c42, c43, c44, c45, c46, c47, c48, c49, c50, c51, c52, c53, c54, c55, c56, c57, c58, c59, c60, c61, c62, c63, c64, c65, c66, c67, c68, c69, c70, c71, c72, c73, c74, c75, c76, c77, .int .i64 op, c79, c80, c81, c82, c83, c84, c85, c86, c87, c88, c89, c90, c91, c92, c93, c94, c95, c96, c97, c98, c99, c100, c101, c102, c103, c104, c105, c106, c107, c108, c109, c110, c111, c112, c113, c114, c115, c116, c117, c118, c119, c120, c121, c122, c123, c124, c125, c126, c127, c128, c129, c130, c131, c132, c133, c134, c135, c136, c137, c138, c139, c140, c141, c142, c143, c144, c145, c146, c147, c148, c149, c150, c151, c152, c153, c154, c155, c156, c157, c158, c159, c160, c161, c162, c163, c164, c165, c166, c167, c168, c169, c170, c171, c172, c173, c174, c175, c176, c177, c178, c179, c180, c181, c182, c183, c184, c185, c186, c187, c188, c189, c190, c191, c192, c193, c194, c195, c196, c197, c198, c199, c200, c201, c202, c203, c204, c205, c206, c207, c208, c209, c210, c211, c212, c213, c214, c215, c216, c217, c218, c219, c220, c221, c222, c223, c224, c225, c226, c227, c228, c229, c230, c231, c232, c233, c234, c235, c236, c237, c238, c239, c240, c241, c242, c243, c244, c245, c246, c247, c248, c249, c250, c251, c252, c253, c254, c255, c256, c257, c258, c259, c260, c261, c262, c263, c264, c265, c266, c267, c268, c269, c270, c271, c272, c273, c274, c275, c276, c277, c278, c279], []⟩ W := by
  subst hO
  have hins := A.S.ins
  rw [A.hop] at hins
  simp only at hins
  have hx : 0 ≤ x ∧ x < (fnAt p i).locals := by
    unfold rightM at hins
    rw [Bool.and_eq_true, if_neg (by omega), if_pos (by omega)] at hins
    exact of_decide_eq_true hins.2
  obtain ⟨y, rfl⟩ := Int.eq_ofNat_of_zero_le hx.1
  have hyl : y < f.locals.length := by have := A.S.loc; omega
  have hyi : (y : Int) < (f.locals.length : Int) := by omega
  have hl8 := A.S.loc8
  clear hins hx
  obtain ⟨a, rfl⟩ : ∃ a, v = [a] := ⟨_, list1 (by have h := A.many; rw [takes_other p 3 (y : Int) (by omega), takes_row1 3 (by omega)] at h; omega)⟩
  have HA : Hid (Sw p s low f i j hs 3 (y : Int) st [a] B m b off cap bp op0 capp P Q v' w W) := A
  obtain ⟨own, V, C, M, hf, hfree⟩ := A.mac
  have k0 := A.q0
  have k1 := A.q1
  have kp := A.qp
  obtain ⟨b', off', cap', T⟩ := M.top (low := low) (f := ⟨f.func, f.pc + 1, f.locals, st⟩) rfl
  have e := T.slice
  rw [hf] at e
  simp only [Value.slice.injEq, Option.some.injEq, Addr.mk.injEq, and_true] at e
  obtain ⟨⟨rfl, rfl⟩, -⟩ := e
  have h88 := A.S.h8
  have hsl : st.length ≤ 8 := by have := congrArg List.length A.left; rw [List.length_take] at this; omega
  obtain ⟨-, A3, cs3, hVk, -⟩ := M.stkRow (low := low) (f := ⟨f.func, f.pc + 1, f.locals, st⟩) rfl (by simp only; omega)
  have k3 := T.c3
  rw [hVk] at k3
  simp only at k3
  have kl := T.lt
  have kne := T.ne
  have kf3 := T.f3
  have kb : B ≤ W.heap.size := Nat.le_of_lt (Nat.lt_of_le_of_lt M.base M.lt)
  have hr := A.row
  obtain ⟨Av, cv, hvf⟩ := hr.form
  subst hvf
  obtain ⟨b0, o0, e0, -, hl0, kv⟩ := hr.at 0 (by simp)
  subst e0
  simp only [List.getElem_cons_zero, Nat.add_zero] at kv
  clear hr
  obtain ⟨hI2, A2, c2, hVl⟩ := M.locRow (low := low) (f := ⟨f.func, f.pc + 1, f.locals, st⟩) rfl (by simp only; omega)
  have k2 := T.c2
  rw [hVl] at k2 hI2
  simp only at k2
  obtain ⟨bl, ol, el, -, hll, kL⟩ := hI2.at y hyl
  subst el
  have hfz : W.frozen? ⟨bl, ol + y, none⟩ = false := by
    obtain ⟨b', o', n', c', e', _, _, _, _, _, g, _⟩ := M.l.at (t := .loc low.length) (by show low.length < _; simp) (k := y) (by rw [M.k.loc low.length (by simp), ints_length]; simpa using hyl)
    rw [hVl] at e'
    simp only [Value.slice.injEq, Option.some.injEq, Addr.mk.injEq, and_true] at e'
    obtain ⟨⟨rfl, rfl⟩, -⟩ := e'
    exact g
  obtain ⟨C6, M6, b6⟩ := (M.below (Below.refl _ _).drew).setLoc low.length (by simp) y (by simpa using hyl) a hVl
  simp only [List.getElem_concat_length, set_top] at M6
  have H6 : Hid (MacZ B m _ _ ∧ Below B W.drew _) := ⟨⟨_, _, _, M6⟩, b6⟩
  simp only at kL
  clear hI2 hVl M6 b6
  have Hs : Hid (stepM p s = ⟨low ++ [⟨f.func, f.pc + 1, f.locals.set y a, st⟩], s.heap, s.out, s.fuel - 1, s.done, s.value, s.trap⟩) := by
    obtain ⟨e1, e2, e3⟩ := A.S.top
    show stepM p s = _
    unfold stepM
    dsimp only
    rw [e1, e3, A.hop]
    simp only
    rw [← A.cut, ← A.left, ← A.taken]
    simp [withM, e2]
  have hbel := A.bel
  clear A M T hVk hfree
  conv => arg 2; whnf
  go_wp2_with fail
  go_region
  go_wp2_with fail
  go_end0
  refine ⟨rfl, ?_, (hbel.drew).trans H6.out.2⟩
  rw [Hs.out]
  exact H6.out.1
end Go.Proofs.YtnknnncehcofnaaGreatDoor

namespace Go.Proofs.YtnknnncehcofnaaGreatDoor
open Go.RowKit

set_option maxRecDepth 100000 in
set_option maxHeartbeats 3200000 in
theorem tailDup {p : List FnM} {s : StM} {low : List FrM} {f : FrM} {i j : Nat} {hs : List Int} {op x : Int} {st v : List Int} {B m b off cap bp op0 capp P Q : Nat} {v' : Value} {w W : World} (A : Sw p s low f i j hs op x st v B m b off cap bp op0 capp P Q v' w W) (hO : op = 4)
    (c3 c6 c8 c9 c10 c11 c12 c13 c14 c15 c16 c17 c18 c19 c20 c21 c22 c23 c24 c25 c26 c27 c28 c29 c30 c31 c32 c33 c34 c35 c36 c37 c38 c39 c40 c41 c42 c43 c44 c45 c46 c47 c48 c49 c50 c51 c52 c53 c54 c55 c56 c57 c58 c59 c60 c61 c62 c63 c64 c65 c66 c67 c68 c69 c70 c71 c72 c73 c74 c75 c76 c77 c79 c80 c81 c82 c83 c84 c85 c86 c87 c88 c89 c90 c91 c92 c93 c94 c95 c96 c97 c98 c99 c100 c101 c102 c103 c104 c105 c106 c107 c108 c109 c110 c111 c112 c113 c114 c115 c116 c117 c118 c119 c120 c121 c122 c123 c124 c125 c126 c127 c128 c129 c130 c131 c132 c133 c134 c135 c136 c137 c138 c139 c140 c141 c142 c143 c144 c145 c146 c147 c148 c149 c150 c151 c152 c153 c154 c155 c156 c157 c158 c159 c160 c161 c162 c163 c164 c165 c166 c167 c168 c169 c170 c171 c172 c173 c174 c175 c176 c177 c178 c179 c180 c181 c182 c183 c184 c185 c186 c187 c188 c189 c190 c191 c192 c193 c194 c195 c196 c197 c198 c199 c200 c201 c202 c203 c204 c205 c206 c207 c208 c209 c210 c211 c212 c213 c214 c215 c216 c217 c218 c219 c220 c221 c222 c223 c224 c225 c226 c227 c228 c229 c230 c231 c232 c233 c234 c235 c236 c237 c238 c239 c240 c241 c242 c243 c244 c245 c246 c247 c248 c249 c250 c251 c252 c253 c254 c255 c256 c257 c258 c259 c260 c261 c262 c263 c264 c265 c266 c267 c268 c269 c270 c271 c272 c273 c274 c275 c276 c277 c278 c279 : Value) :
    Code.wp Tryz.prog swBlock (bodyPost Tryz.prog Tryz.f56 fun e w' => MacZT B m (stepM p s) (.tuple #[]) w w' e) ⟨#[.agg #[.slice (some ⟨bp, op0, none⟩) p.length capp], .pointer (some ⟨m, 0, none⟩), .pointer (some ⟨P, 0, none⟩), c3, .pointer (some ⟨b, off + low.length * 4, none⟩), .pointer (some ⟨Q, 0, none⟩), c6, v', c8, c9, c10, c11, c12, c13, c14, c15, c16, c17, c18, c19, c20, c21, c22, c23, c24, c25, c26, c27, c28, c29, c30, c31, c32, c33, c34, c35, c36, c37, c38, c39, c40, c41, c42, c43, c44, c45, c46, c47, c48, c49, c50, c51, c52, c53, c54, c55, c56, c57, c58, c59, c60, c61, c62, c63, c64, c65, c66, c67, c68, c69, c70, c71, c72, c73, c74, c75, c76, c77, .int .i64 op, c79, c80, c81, c82, c83, c84, c85, c86, c87, c88, c89, c90, c91, c92, c93, c94, c95, c96, c97, c98, c99, c100, c101, c102, c103, c104, c105, c106, c107, c108, c109, c110, c111, c112, c113, c114, c115, c116, c117, c118, c119, c120, c121, c122, c123, c124, c125, c126, c127, c128, c129, c130, c131, c132, c133, c134, c135, c136, c137, c138, c139, c140, c141, c142, c143, c144, c145, c146, c147, c148, c149, c150, c151, c152, c153, c154, c155, c156, c157, c158, c159, c160, c161, c162, c163, c164, c165, c166, c167, c168, c169, c170, c171, c172, c173, c174, c175, c176, c177, c178, c179, c180, c181, c182, c183, c184, c185, c186, c187, c188, c189, c190, c191, c192, c193, c194, c195, c196, c197, c198, c199, c200, c201, c202, c203, c204, c205, c206, c207, c208, c209, c210, c211, c212, c213, c214, c215, c216, c217, c218, c219, c220, c221, c222, c223, c224, c225, c226, c227, c228, c229, c230, c231, c232, c233, c234, c235, c236, c237, c238, c239, c240, c241, c242, c243, c244, c245, c246, c247, c248, c249, c250, c251, c252, c253, c254, c255, c256, c257, c258, c259, c260, c261, c262, c263, c264, c265, c266, c267, c268, c269, c270, c271, c272, c273, c274, c275, c276, c277, c278, c279], []⟩ W := by
  subst hO
  obtain ⟨a, rfl⟩ : ∃ a, v = [a] := ⟨_, list1 (by have h := A.many; rw [takes_other p 4 x (by omega), takes_row1 4 (by omega)] at h; omega)⟩
  have HA : Hid (Sw p s low f i j hs 4 x st [a] B m b off cap bp op0 capp P Q v' w W) := A
  obtain ⟨own, V, C, M, hf, hfree⟩ := A.mac
  have k0 := A.q0
  have k1 := A.q1
  have kp := A.qp
  obtain ⟨b', off', cap', T⟩ := M.top (low := low) (f := ⟨f.func, f.pc + 1, f.locals, st⟩) rfl
  have e := T.slice
  rw [hf] at e
  simp only [Value.slice.injEq, Option.some.injEq, Addr.mk.injEq, and_true] at e
  obtain ⟨⟨rfl, rfl⟩, -⟩ := e
  have h88 := A.S.h8
  have hsl : st.length ≤ 8 := by have := congrArg List.length A.left; rw [List.length_take] at this; omega
  obtain ⟨-, A3, cs3, hVk, -⟩ := M.stkRow (low := low) (f := ⟨f.func, f.pc + 1, f.locals, st⟩) rfl (by simp only; omega)
  have k3 := T.c3
  rw [hVk] at k3
  simp only at k3
  have kl := T.lt
  have kne := T.ne
  have kf3 := T.f3
  have kb : B ≤ W.heap.size := Nat.le_of_lt (Nat.lt_of_le_of_lt M.base M.lt)
  have hr := A.row
  obtain ⟨Av, cv, hvf⟩ := hr.form
  subst hvf
  obtain ⟨b0, o0, e0, -, hl0, kv⟩ := hr.at 0 (by simp)
  subst e0
  simp only [List.getElem_cons_zero, Nat.add_zero] at kv
  clear hr
  have hput := put_at M (k := st.length) (g := ⟨f.func, f.pc + 1, f.locals, st⟩) rfl hf rfl k3 (by omega) [a, a] (by simp) (by simp)
  have hal : Below W.heap.size W (W.drew.alloc (.cells #[.int .i64 a, .int .i64 a] 2)) := (Below.refl _ _).drew.alloc (Nat.le_refl _) _
  obtain ⟨b1, off1, cap1, w1, hrun, ⟨⟨ux, d0⟩, d1, d2⟩, H1⟩ := hput _ ⟨W.heap.size, 0, none⟩ hal (fun q hq => by
    have hX := box_new W.drew #[.int .i64 a, .int .i64 a] 2
    match q, hq with
    | 0, _ => exact hX.at0
    | 1, _ => exact hX.at1)
  simp only [List.length_cons, List.length_nil, Nat.zero_add, Nat.reduceAdd] at hrun H1
  clear hput hal
  have Hs : Hid (stepM p s = ⟨low ++ [⟨f.func, f.pc + 1, f.locals, st ++ [a, a]⟩], s.heap, s.out, s.fuel - 1, s.done, s.value, s.trap⟩) := by
    obtain ⟨e1, e2, e3⟩ := A.S.top
    show stepM p s = _
    unfold stepM
    dsimp only
    rw [e1, e3, A.hop]
    simp only
    rw [← A.cut, ← A.left, ← A.taken]
    simp [withM, e2]
  have hbel := A.bel
  clear A M T hVk hfree
  conv => arg 2; whnf
  go_wp2_with fail
  go_region_law (refine step_append_run rfl (.tmp 157) (.tmp 164) 28 rfl (.slice A3 st.length cs3) (.slice (some ⟨W.heap.size, 0, none⟩) 2 2) (by simp [Act.eval]) (by simp [Act.eval]) _ _ hrun ?_)
  all_goals
    go_wp2_with fail
    go_end0
    refine ⟨rfl, ?_, hbel.trans H1.out.2⟩
    rw [Hs.out]
    exact H1.out.1
end Go.Proofs.YtnknnncehcofnaaGreatDoor
