/- spec.l06Step: a branch of its switch. spec.l06Step: a branch of its switch. spec.l06Step: a branch of its switch. -/
import Derived.Test.YtnknnncehcofnaaGreatDoorJ39SpDo
namespace Go.Proofs.YtnknnncehcofnaaGreatDoor
open Go.RowKit

set_option maxRecDepth 100000 in
set_option maxHeartbeats 3200000 in
theorem tailRet {p : List FnM} {s : StM} {low : List FrM} {f : FrM} {i j : Nat} {hs : List Int} {op x : Int} {st v : List Int} {B m b off cap bp op0 capp P Q : Nat} {v' : Value} {w W : World} (A : Sw p s low f i j hs op x st v B m b off cap bp op0 capp P Q v' w W) (hO : op = 33)
    (c3 c6 c8 c9 c10 c11 c12 c13 c14 c15 c16 c17 c18 c19 c20 c21 c22 c23 c24 c25 c26 c27 c28 c29 c30 c31 c32 c33 c34 c35 c36 c37 c38 c39 c40 c41 c42 c43 c44 c45 c46 c47 c48 c49 c50 c51 c52 c53 c54 c55 c56 c57 c58 c59 c60 c61 c62 c63 c64 c65 c66 c67 c68 c69 c70 c71 c72 c73 c74 c75 c76 c77 c79 c80 c81 c82 c83 c84 c85 c86 c87 c88 c89 c90 c91 c92 c93 c94 c95 c96 c97 c98 c99 c100 c101 c102 c103 c104 c105 c106 c107 c108 c109 c110 c111 c112 c113 c114 c115 c116 c117 c118 c119 c120 c121 c122 c123 c124 c125 c126 c127 c128 c129 c130 c131 c132 c133 c134 c135 c136 c137 c138 c139 c140 c141 c142 c143 c144 c145 c146 c147 c148 c149 c150 c151 c152 c153 c154 c155 c156 c157 c158 c159 c160 c161 c162 c163 c164 c165 c166 c167 c168 c169 c170 c171 c172 c173 c174 c175 c176 c177 c178 c179 c180 c181 c182 c183 c184 c185 c186 c187 c188 c189 c190 c191 c192 c193 c194 c195 c196 c197 c198 c199 c200 c201 c202 c203 c204 c205 c206 c207 c208 c209 c210 c211 c212 c213 c214 c215 c216 c217 c218 c219 c220 c221 c222 c223 c224 c225 c226 c227 c228 c229 c230 c231 c232 c233 c234 c235 c236 c237 c238 c239 c240 c241 c242 c243 c244 c245 c246 c247 c248 c249 c250 c251 c252 c253 c254 c255 c256 c257 c258 c259 c260 c261 c262 c263 c264 c265 c266 c267 c268 c269 c270 c271 c272 c273 c274 c275 c276 c277 c278 c279 : Value) :
    Code.wp Tryz.prog swBlock (bodyPost Tryz.prog Tryz.f56 fun e w' => MacZT B m (stepM p s) (.tuple #[]) w w' e) ⟨#[.agg #[.slice (some ⟨bp, op0, none⟩) p.length capp], .pointer (some ⟨m, 0, none⟩), .pointer (some ⟨P, 0, none⟩), c3, .pointer (some ⟨b, off + low.length * 4, none⟩), .pointer (some ⟨Q, 0, none⟩), c6, v', c8, c9, c10, c11, c12, c13, c14, c15, c16, c17, c18, c19, c20, c21, c22, c23, c24, c25, c26, c27, c28, c29, c30, c31, c32, c33, c34, c35, c36, c37, c38, c39, c40, c41, c42, c43, c44, c45, c46, c47, c48, c49, c50, c51, c52, c53, c54, c55, c56, c57, c58, c59, c60, c61, c62, c63, c64, c65, c66, c67, c68, c69, c70, c71, c72, c73, c74, c75, c76, c77, .int .i64 op, c79, c80, c81, c82, c83, c84, c85, c86, c87, c88, c89, c90, c91, c92, c93, c94, c95, c96, c97, c98, c99, c100, c101, c102, c103, c104, c105, c106, c107, c108, c109, c110, c111, c112, c113, c114, c115, c116, c117, c118, c119, c120, c121, c122, c123, c124, c125, c126, c127, c128, c129, c130, c131, c132, c133, c134, c135, c136, c137, c138, c139, c140, c141, c142, c143, c144, c145, c146, c147, c148, c149, c150, c151, c152, c153, c154, c155, c156, c157, c158, c159, c160, c161, c162, c163, c164, c165, c166, c167, c168, c169, c170, c171, c172, c173, c174, c175, c176, c177, c178, c179, c180, c181, c182, c183, c184, c185, c186, c187, c188, c189, c190, c191, c192, c193, c194, c195, c196, c197, c198, c199, c200, c201, c202, c203, c204, c205, c206, c207, c208, c209, c210, c211, c212, c213, c214, c215, c216, c217, c218, c219, c220, c221, c222, c223, c224, c225, c226, c227, c228, c229, c230, c231, c232, c233, c234, c235, c236, c237, c238, c239, c240, c241, c242, c243, c244, c245, c246, c247, c248, c249, c250, c251, c252, c253, c254, c255, c256, c257, c258, c259, c260, c261, c262, c263, c264, c265, c266, c267, c268, c269, c270, c271, c272, c273, c274, c275, c276, c277, c278, c279], []⟩ W := by
  subst hO
  obtain ⟨a, rfl⟩ : ∃ a, v = [a] := ⟨_, list1 (by have h := A.many; rw [takes_other p 33 x (by omega), takes_row1 33 (by omega)] at h; omega)⟩
  have HA : Hid (Sw p s low f i j hs 33 x st [a] B m b off cap bp op0 capp P Q v' w W) := A
  obtain ⟨own, V, C, M, hf, hfree⟩ := A.mac
  have k0 := A.q0
  have k1 := A.q1
  have kp := A.qp
  obtain ⟨b', off', cap', T⟩ := M.top (low := low) (f := ⟨f.func, f.pc + 1, f.locals, st⟩) rfl
  have e := T.slice
  rw [hf] at e
  simp only [Value.slice.injEq, Option.some.injEq, Addr.mk.injEq, and_true] at e
  obtain ⟨⟨rfl, rfl⟩, -⟩ := e
  have h88 := A.S.h8
  have hsl : st.length ≤ 8 := by have := congrArg List.length A.left; rw [List.length_take] at this; omega
  obtain ⟨-, A3, cs3, hVk, -⟩ := M.stkRow (low := low) (f := ⟨f.func, f.pc + 1, f.locals, st⟩) rfl (by simp only; omega)
  have k3 := T.c3
  rw [hVk] at k3
  simp only at k3
  have kl := T.lt
  have kne := T.ne
  have kf3 := T.f3
  have kb : B ≤ W.heap.size := Nat.le_of_lt (Nat.lt_of_le_of_lt M.base M.lt)
  have hr := A.row
  obtain ⟨Av, cv, hvf⟩ := hr.form
  subst hvf
  obtain ⟨b0, o0, e0, -, hl0, kv⟩ := hr.at 0 (by simp)
  subst e0
  simp only [List.getElem_cons_zero, Nat.add_zero] at kv
  clear hr
  have hmz := M.zcell.1
  rw [hf] at hmz
  have kf0 := M.zthaw 0 (by omega)
  have kml := M.lt
  have hten := A.S.ten
  have hlw : IntKind.i64.wrap ((low.length : Int) + 1 - 1) = (low.length : Int) := by rw [IntKind.wrap_i64]; omega
  have hcap : low.length + 1 ≤ cap := by
    obtain ⟨A', n', c', e', hn', _⟩ := M.l.room .fr trivial
    rw [hf] at e'
    simp only [Value.slice.injEq] at e'
    omega
  have hcapI : (low.length : Int) ≤ (cap : Int) := by omega
  have hfar := (A.far b0 o0 _ _ rfl (by simp)).1
  have hlen : (low ++ [⟨f.func, f.pc + 1, f.locals, st⟩] : List FrM).length = low.length + 1 := by simp
  obtain ⟨C6, M6, b6⟩ := M.dropFrame rfl hf (by simp) low.length (by omega)
  rw [show List.take low.length (low ++ [⟨f.func, f.pc + 1, f.locals, st⟩] : List FrM) = low from List.take_left' rfl] at M6
  have hsm := A.S.lows
  have HS : Hid (Stand p s low f i j hs) := A.S
  have Hstep : Hid (stepM p s = if low = [] then ⟨[], s.heap, s.out, s.fuel - 1, true, a, s.trap⟩ else ⟨low.dropLast ++ [⟨(low.getLastD ⟨0, 0, [], []⟩).func, (low.getLastD ⟨0, 0, [], []⟩).pc, (low.getLastD ⟨0, 0, [], []⟩).locals, (low.getLastD ⟨0, 0, [], []⟩).stack ++ [a]⟩], s.heap, s.out, s.fuel - 1, s.done, s.value, s.trap⟩) := by
    obtain ⟨e1, e2, e3⟩ := A.S.top
    show stepM p s = _
    unfold stepM
    dsimp only
    rw [e1, e3, A.hop]
    simp only
    rw [← A.cut, ← A.left, ← A.taken, e2]
    simp
  have hbel := A.bel
  have HM6 : Hid (Mac B m 0 noPr own ((W.setCell ⟨m, 0, none⟩ (.slice (some ⟨b, off, none⟩) low.length cap)).drew) _ C6 _) := M6.below (Below.refl _ _).drew
  have Hb6 : Hid (Below B W ((W.setCell ⟨m, 0, none⟩ (.slice (some ⟨b, off, none⟩) low.length cap)).drew)) := b6.drew
  have kv6 : ((W.setCell ⟨m, 0, none⟩ (.slice (some ⟨b, off, none⟩) low.length cap)).drew).cell? ⟨b0, o0, none⟩ = some (.int .i64 a) := by
    show (W.setCell ⟨m, 0, none⟩ (.slice (some ⟨b, off, none⟩) low.length cap)).cell? ⟨b0, o0, none⟩ = _
    rw [World.cell?_setCell_other _ _ _ _ (by intro e; simp only [Addr.mk.injEq] at e; omega)]
    exact kv
  clear M6 b6 M T hVk A
  conv => arg 2; whnf
  go_wp2_with fail
  go_region
  obtain ⟨W6, hW6⟩ : ∃ x, x = (W.setCell ⟨m, 0, none⟩ (.slice (some ⟨b, off, none⟩) low.length cap)).drew := ⟨_, rfl⟩
  rw [← hW6] at HM6 Hb6 kv6 ⊢
  clear hW6 kf0 hmz k0 k1 kp k3 kf3 kv
  have hm6 := HM6.out.zcell.1
  rw [upd_at] at hm6
  have ml6 := HM6.out.lt
  by_cases hl : low = []
  · subst hl
    have hz : (([] : List FrM).length : Int) = 0 := rfl
    have g4 := HM6.out.zthaw 4 (by omega)
    have g5 := HM6.out.zthaw 5 (by omega)
    obtain ⟨M7, b7⟩ := HM6.out.field (s' := ⟨[], s.heap, s.out, s.fuel - 1, true, s.value, s.trap⟩) 4 (by omega) (.bool true) rfl rfl rfl rfl
    obtain ⟨M8, b8⟩ := M7.field (s' := ⟨[], s.heap, s.out, s.fuel - 1, true, a, s.trap⟩) 5 (by omega) (.int .i64 a) rfl rfl rfl rfl
    rw [Nat.zero_add] at M8 b8 b7
    rw [Nat.zero_add] at M8 b8
    have H8 : Hid (MacZ B m _ _ ∧ Below B W6 _) := ⟨⟨_, _, _, M8⟩, b7.trans b8⟩
    obtain ⟨-, -, -, -, g4c, g5c, -⟩ := HM6.out.zcell
    clear M7 b7 M8 b8
    simp only [List.length_nil] at hm6
    go_wp2_with fail
    refine bodyPost_ret (results_none rfl _ _ _) rfl ⟨rfl, ?_, hbel.trans (Hb6.out.trans H8.out.2)⟩
    rw [Hstep.out, if_pos trivial]
    exact H8.out.1
  · obtain ⟨low2, g, hlow⟩ : ∃ low2 g, low = low2 ++ [g] := ⟨low.dropLast, low.getLast hl, (List.dropLast_concat_getLast hl).symm⟩
    have hln : low.length = low2.length + 1 := by rw [hlow]; simp
    have hgs : g.stack.length ≤ 8 := by
      have hF := HS.out.frames
      have h := (HS.out.lows low2.length (by omega)).short HS.out.right (by rw [hF, List.length_append]; omega)
      have e : s.frames[low2.length]'(by rw [hF, List.length_append]; omega) = g := by simp [hF, hlow]
      rw [e] at h
      exact h.1
    obtain ⟨b', off', cap', T6⟩ := HM6.out.top (low := low2) (f := g) hlow
    have e6 := T6.slice
    rw [upd_at] at e6
    simp only [Value.slice.injEq, Option.some.injEq, Addr.mk.injEq, and_true] at e6
    obtain ⟨⟨rfl, rfl⟩, -, -⟩ := e6
    obtain ⟨-, A6, cs6, hVk6, -⟩ := HM6.out.stkRow (low := low2) (f := g) hlow (by omega)
    have j3 := T6.c3
    rw [hVk6] at j3
    have jf3 := T6.f3
    have jl := T6.lt
    have HF6 : Hid (upd V .fr (.slice (some ⟨b, off, none⟩) low.length cap) .fr = .slice (some ⟨b, off, none⟩) (low2.length + 1) cap) := by show _ = _; rw [upd_at, hln]
    obtain ⟨n2, hn2⟩ : ∃ n, n = g.stack.length := ⟨_, rfl⟩
    rw [← hn2] at j3 hgs
    have HN2 : Hid (n2 = g.stack.length) := hn2
    have hput := put_at HM6.out (k := n2) (g := g) hlow HF6.out hn2.symm j3 (by omega) [a] (by simp) (by simp)
    have HPut : Hid (PutAt B m b off low2.length low2 g _ A6 n2 cs6 W6 [a]) := hput
    have hlz : ¬ (low.length : Int) = 0 := by omega
    have hlz2 : ((low.length : Int) == 0) = false := by simpa using hlz
    have hlw2 : IntKind.i64.wrap ((low.length : Int) - 1) = (low2.length : Int) := by rw [IntKind.wrap_i64]; omega
    have hl2 : (low2.length : Int) < (low.length : Int) := by omega
    have HS2 : Hid (stepM p s = ⟨low2 ++ [⟨g.func, g.pc, g.locals, g.stack ++ [a]⟩], s.heap, s.out, s.fuel - 1, s.done, s.value, s.trap⟩) := by
      show stepM p s = _
      rw [Hstep.out, if_neg hl, hlow]
      simp
    have Hln : Hid (low.length = low2.length + 1) := hln
    clear hput hn2 T6 hVk6 hlow hln hlw hcapI hcap
    go_wp2_with fail
    go_region
    go_wp2_with fail
    obtain ⟨W7, hW7⟩ : ∃ x, x = W6.drew := ⟨_, rfl⟩
    rw [← hW7]
    have hb67 : Below W6.heap.size W6 W7 := by rw [hW7]; exact (Below.refl _ _).drew
    have q3 : W7.cell? ⟨b, off + low2.length * 4 + 3, none⟩ = some (.slice A6 n2 cs6) := by rw [hW7]; exact j3
    have qf3 : W7.frozen? ⟨b, off + low2.length * 4 + 3, none⟩ = false := by rw [hW7]; exact jf3
    have qv : W7.cell? ⟨b0, o0, none⟩ = some (.int .i64 a) := by rw [hW7]; exact kv6
    have ql : b < W7.heap.size := Nat.lt_of_lt_of_le jl hb67.size
    have hal : Below W6.heap.size W6 (W7.drew.alloc (.cells #[.int .i64 a] 2)) := hb67.drew.alloc hb67.size _
    obtain ⟨b1, off1, cap1, w1, hrun, ⟨⟨ux, d0⟩, d1, d2⟩, H1⟩ := HPut.out _ ⟨W7.heap.size, 0, none⟩ hal (fun q hq => by
      have hX := box_new W7.drew #[.int .i64 a] 2
      match q, hq with
      | 0, _ => exact hX.at0)
    have hal2 : Below W6.heap.size W6 (W7.alloc (.cells #[.int .i64 a] 2)).drew := (hb67.alloc hb67.size _).drew
    obtain ⟨b2, off2, cap2, w2, hrun2, ⟨⟨uy, d3⟩, d4, d5⟩, H2⟩ := HPut.out _ ⟨W7.heap.size, 0, none⟩ hal2 (fun q hq => by
      have hX := (box_new W7 #[.int .i64 a] 2).below (Below.refl _ _).drew
      match q, hq with
      | 0, _ => exact hX.at0)
    simp only [List.length_cons, List.length_nil, Nat.zero_add] at hrun H1 hrun2 H2
    clear hal hal2 hW7 HPut hb67 j3 jf3 jl kv6 hm6 HM6 Hstep
    go_region_law (first | (refine step_append_run rfl (.tmp 258) (.tmp 262) 28 rfl (.slice A6 n2 cs6) (.slice (some ⟨W7.heap.size, 0, none⟩) 1 1) (by simp [Act.eval]) (by simp [Act.eval]) _ _ hrun ?_) | (refine step_append_run rfl (.tmp 258) (.tmp 262) 28 rfl (.slice A6 n2 cs6) (.slice (some ⟨W7.heap.size, 0, none⟩) 1 1) (by simp [Act.eval]) (by simp [Act.eval]) _ _ hrun2 ?_))
    all_goals
      go_wp2_with fail
      go_end0
      first
        | exact ⟨rfl, by rw [HS2.out]; exact H1.out.1, hbel.trans (Hb6.out.trans H1.out.2)⟩
        | exact ⟨rfl, by rw [HS2.out]; exact H2.out.1, hbel.trans (Hb6.out.trans H2.out.2)⟩
end Go.Proofs.YtnknnncehcofnaaGreatDoor

namespace Go.Proofs.YtnknnncehcofnaaGreatDoor
open Go.RowKit

/-- an append of a frame, run -/
def FrmR (B m : Nat) (low : List FrM) (s : StM) (f : FrM) (st : List Int) (y lo : Nat) (v : List Int) (Af : Option Addr) (cap : Nat) (W X : World) (q : Nat) : Prop :=
  ∃ b1 off1 cap1 w1, (Builtin.append_ #[43, 43] 43 #[.slice Af (low.length + 1) cap, .slice (some ⟨q, 0, none⟩) 1 1]).run Tryz.prog X = .ok (.slice (some ⟨b1, off1, none⟩) (low.length + 1 + 1) cap1) w1 ∧
    ((∃ u, w1.cell? ⟨m, 0, none⟩ = some u) ∧ w1.frozen? ⟨m, 0, none⟩ = false ∧ m < w1.heap.size) ∧
    Hid (MacZ B m (w1.setCell ⟨m, 0, none⟩ (.slice (some ⟨b1, off1, none⟩) (low.length + 1 + 1) cap1)) ⟨low ++ [⟨f.func, f.pc + 1, f.locals, st⟩] ++ [⟨(y : Int), 0, newLocals lo v, []⟩], s.heap, s.out, s.fuel - 1, s.done, s.value, s.trap⟩ ∧ Below B W (w1.setCell ⟨m, 0, none⟩ (.slice (some ⟨b1, off1, none⟩) (low.length + 1 + 1) cap1)))

/-- a frame begun, and what its append to the frames does: in whatever order -/
def FrmN (B m : Nat) (low : List FrM) (s : StM) (f : FrM) (st : List Int) (y lo : Nat) (v : List Int) (Af : Option Addr) (cap : Nat) (W w4 : World) (e : Ending) : Prop :=
  ∃ g, e = .returned (.agg #[.int .i64 (y : Int), .int .i64 0, .slice (some ⟨g, 0, none⟩) lo lo, .slice none 0 0]) ∧ m < w4.heap.size ∧ w4.cell? ⟨m, 0, none⟩ = some (.slice Af (low.length + 1) cap) ∧
    FrmR B m low s f st y lo v Af cap W (w4.alloc (.cells #[.int .i64 (y : Int), .int .i64 0, .slice (some ⟨g, 0, none⟩) lo lo, .slice none 0 0] 110)) w4.heap.size ∧
    FrmR B m low s f st y lo v Af cap W (w4.drew.alloc (.cells #[.int .i64 (y : Int), .int .i64 0, .slice (some ⟨g, 0, none⟩) lo lo, .slice none 0 0] 110)) w4.heap.size ∧
    FrmR B m low s f st y lo v Af cap W (w4.alloc (.cells #[.int .i64 (y : Int), .int .i64 0, .slice (some ⟨g, 0, none⟩) lo lo, .slice none 0 0] 110)).drew w4.heap.size

set_option maxRecDepth 100000 in
set_option maxHeartbeats 3200000 in
theorem tailCall {p : List FnM} {s : StM} {low : List FrM} {f : FrM} {i j : Nat} {hs : List Int} {op x : Int} {st v : List Int} {B m b off cap bp op0 capp P Q : Nat} {v' : Value} {w W : World} (A : Sw p s low f i j hs op x st v B m b off cap bp op0 capp P Q v' w W) (hO : op = 32 ∧ low.length + 1 < 10)
    (c3 c6 c8 c9 c10 c11 c12 c13 c14 c15 c16 c17 c18 c19 c20 c21 c22 c23 c24 c25 c26 c27 c28 c29 c30 c31 c32 c33 c34 c35 c36 c37 c38 c39 c40 c41 c42 c43 c44 c45 c46 c47 c48 c49 c50 c51 c52 c53 c54 c55 c56 c57 c58 c59 c60 c61 c62 c63 c64 c65 c66 c67 c68 c69 c70 c71 c72 c73 c74 c75 c76 c77 c79 c80 c81 c82 c83 c84 c85 c86 c87 c88 c89 c90 c91 c92 c93 c94 c95 c96 c97 c98 c99 c100 c101 c102 c103 c104 c105 c106 c107 c108 c109 c110 c111 c112 c113 c114 c115 c116 c117 c118 c119 c120 c121 c122 c123 c124 c125 c126 c127 c128 c129 c130 c131 c132 c133 c134 c135 c136 c137 c138 c139 c140 c141 c142 c143 c144 c145 c146 c147 c148 c149 c150 c151 c152 c153 c154 c155 c156 c157 c158 c159 c160 c161 c162 c163 c164 c165 c166 c167 c168 c169 c170 c171 c172 c173 c174 c175 c176 c177 c178 c179 c180 c181 c182 c183 c184 c185 c186 c187 c188 c189 c190 c191 c192 c193 c194 c195 c196 c197 c198 c199 c200 c201 c202 c203 c204 c205 c206 c207 c208 c209 c210 c211 c212 c213 c214 c215 c216 c217 c218 c219 c220 c221 c222 c223 c224 c225 c226 c227 c228 c229 c230 c231 c232 c233 c234 c235 c236 c237 c238 c239 c240 c241 c242 c243 c244 c245 c246 c247 c248 c249 c250 c251 c252 c253 c254 c255 c256 c257 c258 c259 c260 c261 c262 c263 c264 c265 c266 c267 c268 c269 c270 c271 c272 c273 c274 c275 c276 c277 c278 c279 : Value) :
    Code.wp Tryz.prog swBlock (bodyPost Tryz.prog Tryz.f56 fun e w' => MacZT B m (stepM p s) (.tuple #[]) w w' e) ⟨#[.agg #[.slice (some ⟨bp, op0, none⟩) p.length capp], .pointer (some ⟨m, 0, none⟩), .pointer (some ⟨P, 0, none⟩), c3, .pointer (some ⟨b, off + low.length * 4, none⟩), .pointer (some ⟨Q, 0, none⟩), c6, v', c8, c9, c10, c11, c12, c13, c14, c15, c16, c17, c18, c19, c20, c21, c22, c23, c24, c25, c26, c27, c28, c29, c30, c31, c32, c33, c34, c35, c36, c37, c38, c39, c40, c41, c42, c43, c44, c45, c46, c47, c48, c49, c50, c51, c52, c53, c54, c55, c56, c57, c58, c59, c60, c61, c62, c63, c64, c65, c66, c67, c68, c69, c70, c71, c72, c73, c74, c75, c76, c77, .int .i64 op, c79, c80, c81, c82, c83, c84, c85, c86, c87, c88, c89, c90, c91, c92, c93, c94, c95, c96, c97, c98, c99, c100, c101, c102, c103, c104, c105, c106, c107, c108, c109, c110, c111, c112, c113, c114, c115, c116, c117, c118, c119, c120, c121, c122, c123, c124, c125, c126, c127, c128, c129, c130, c131, c132, c133, c134, c135, c136, c137, c138, c139, c140, c141, c142, c143, c144, c145, c146, c147, c148, c149, c150, c151, c152, c153, c154, c155, c156, c157, c158, c159, c160, c161, c162, c163, c164, c165, c166, c167, c168, c169, c170, c171, c172, c173, c174, c175, c176, c177, c178, c179, c180, c181, c182, c183, c184, c185, c186, c187, c188, c189, c190, c191, c192, c193, c194, c195, c196, c197, c198, c199, c200, c201, c202, c203, c204, c205, c206, c207, c208, c209, c210, c211, c212, c213, c214, c215, c216, c217, c218, c219, c220, c221, c222, c223, c224, c225, c226, c227, c228, c229, c230, c231, c232, c233, c234, c235, c236, c237, c238, c239, c240, c241, c242, c243, c244, c245, c246, c247, c248, c249, c250, c251, c252, c253, c254, c255, c256, c257, c258, c259, c260, c261, c262, c263, c264, c265, c266, c267, c268, c269, c270, c271, c272, c273, c274, c275, c276, c277, c278, c279], []⟩ W := by
  obtain ⟨hO, h10⟩ := hO
  subst hO
  have hins := A.S.ins
  rw [A.hop] at hins
  simp only at hins
  have hx : 0 ≤ x ∧ x < p.length := by
    unfold rightM at hins
    rw [Bool.and_eq_true, if_neg (by omega), if_neg (by omega), if_neg (by omega), if_pos rfl] at hins
    exact inL_iff.1 hins.2
  obtain ⟨y, rfl⟩ := Int.eq_ofNat_of_zero_le hx.1
  have hy : y < p.length := by omega
  obtain ⟨ww, _, _⟩ := ((A.S.right.all.2.2 y hy).well rfl)
  simp [formOk] at ww
  have htk : takesM p 32 (y : Int) = (fnAt p y).args := by unfold takesM; rw [if_pos rfl, if_pos hx]
  have hfay : fnAt p y = p[y] := by unfold fnAt; simp [hy]
  rw [hfay] at htk ww
  obtain ⟨lo, hlo⟩ := Int.eq_ofNat_of_zero_le (show 0 ≤ p[y].locals by omega)
  have hlo8 : lo ≤ 8 := by omega
  have hvlo : v.length ≤ lo := by
    have a1 := A.many
    rw [htk] at a1
    omega
  have hten := A.S.ten
  clear hins hx ww htk
  have HA : Hid (Sw p s low f i j hs 32 (y : Int) st v B m b off cap bp op0 capp P Q v' w W) := A
  obtain ⟨own, V, C, M, hf, hfree⟩ := A.mac
  have k0 := A.q0
  have k1 := A.q1
  have kp := A.qp
  obtain ⟨b', off', cap', T⟩ := M.top (low := low) (f := ⟨f.func, f.pc + 1, f.locals, st⟩) rfl
  have e := T.slice
  rw [hf] at e
  simp only [Value.slice.injEq, Option.some.injEq, Addr.mk.injEq, and_true] at e
  obtain ⟨⟨rfl, rfl⟩, -⟩ := e
  have h88 := A.S.h8
  have hsl : st.length ≤ 8 := by have := congrArg List.length A.left; rw [List.length_take] at this; omega
  obtain ⟨-, A3, cs3, hVk, -⟩ := M.stkRow (low := low) (f := ⟨f.func, f.pc + 1, f.locals, st⟩) rfl (by simp only; omega)
  have k3 := T.c3
  rw [hVk] at k3
  simp only at k3
  have kl := T.lt
  have kne := T.ne
  have kf3 := T.f3
  have kb : B ≤ W.heap.size := Nat.le_of_lt (Nat.lt_of_le_of_lt M.base M.lt)
  have hmz := M.zcell.1
  rw [hf] at hmz
  have kml := M.lt
  have kf0 := M.zthaw 0 (by omega)
  have hr := A.row
  obtain ⟨Av, cv, hvf⟩ := hr.form
  subst hvf
  have h10 : (low.length : Int) + 1 < 10 := by omega
  have Hs : Hid (stepM p s = ⟨low ++ [⟨f.func, f.pc + 1, f.locals, st⟩] ++ [⟨(y : Int), 0, newLocals lo v, []⟩], s.heap, s.out, s.fuel - 1, s.done, s.value, s.trap⟩) := by
    obtain ⟨e1, e2, e3⟩ := A.S.top
    show stepM p s = _
    unfold stepM
    dsimp only
    rw [e1, e3, A.hop]
    simp only
    rw [← A.cut, ← A.left, ← A.taken, hfay, hlo]
    have hfl : s.frames.length < 10 := by rw [A.S.frames, List.length_append, List.length_singleton]; omega
    simp [hfl, withM, e2]
    rfl
  have hnl : (newLocals lo v).length = lo := by unfold newLocals; rw [List.length_append, List.length_replicate]; omega
  obtain ⟨Af, cf, k5, hfrm⟩ := frm_at M (by simp; omega)
  rw [hmz] at k5
  simp only [Option.some.injEq, Value.slice.injEq, List.length_append, List.length_singleton] at k5
  obtain ⟨rfl, -, rfl⟩ := k5
  simp only [List.length_append, List.length_singleton] at hfrm
  have hN0 : ∀ X, Below W.heap.size W X → Calls Tryz.prog 111 #[.agg #[.slice (some ⟨bp, op0, none⟩) p.length capp], .int .i64 (y : Int), .slice Av v.length cv] X fun e w4 => FrmN B m low s f st y lo v (some ⟨b, off, none⟩) cap W w4 e := by
    intro X hX
    refine Calls.mono (specNewV (.slice (some ⟨bp, op0, none⟩) p.length capp) (.slice Av v.length cv) p y lo v X (A.prg X (A.bel.trans (hX.mono kb))).1 hy hlo (hr.below hX) hvlo (by omega)) ?_
    rintro e w4 ⟨g, rfl, hg, hV, hb4⟩
    have h4 : Below W.heap.size W w4 := hX.trans (hb4.mono hX.size)
    have hgW : W.heap.size ≤ g := Nat.le_trans hX.size hg
    have hal : Below w4.heap.size w4 (w4.alloc (.cells #[.int .i64 (y : Int), .int .i64 0, .slice (some ⟨g, 0, none⟩) lo lo, .slice none 0 0] 110)) := (Below.refl _ _).alloc (Nat.le_refl _) _
    have hX4 := box_new w4 #[.int .i64 (y : Int), .int .i64 0, .slice (some ⟨g, 0, none⟩) lo lo, .slice none 0 0] 110
    have hal2 : Below w4.heap.size w4 (w4.drew.alloc (.cells #[.int .i64 (y : Int), .int .i64 0, .slice (some ⟨g, 0, none⟩) lo lo, .slice none 0 0] 110)) := (Below.refl _ _).drew.alloc (Nat.le_refl _) _
    have hX5 := box_new w4.drew #[.int .i64 (y : Int), .int .i64 0, .slice (some ⟨g, 0, none⟩) lo lo, .slice none 0 0] 110
    refine ⟨g, rfl, Nat.lt_of_lt_of_le kml h4.size, by rw [h4.cell (by exact kml)]; exact hmz, ?_, ?_, ?_⟩
    · exact hfrm _ ⟨w4.heap.size, 0, none⟩ g lo y (newLocals lo v) (h4.trans (hal.mono h4.size)) hgW (hV.below hal) hnl hX4.at0 hX4.at1 hX4.at2 (hX4.2 3)
    · exact hfrm _ ⟨w4.heap.size, 0, none⟩ g lo y (newLocals lo v) (h4.trans (hal2.mono h4.size)) hgW (hV.below hal2) hnl hX5.at0 hX5.at1 hX5.at2 (hX5.2 3)
    · exact hfrm _ ⟨w4.heap.size, 0, none⟩ g lo y (newLocals lo v) (h4.trans (hal.drew.mono h4.size)) hgW (hV.below hal.drew) hnl hX4.at0 hX4.at1 hX4.at2 (hX4.2 3)
  have HN : Hid (∀ X, Below W.heap.size W X → Calls Tryz.prog 111 #[.agg #[.slice (some ⟨bp, op0, none⟩) p.length capp], .int .i64 (y : Int), .slice Av v.length cv] X fun e w4 => FrmN B m low s f st y lo v (some ⟨b, off, none⟩) cap W w4 e) := hN0
  have hyl : (y : Int) < p.length := by omega
  have hbel := A.bel
  have hb0 : Below W.heap.size W W.drew := (Below.refl _ _).drew
  clear hN0 hfrm A M T hVk hr hfay hlo
  conv => arg 2; whnf
  go_wp2_with fail
  go_region_law (first
    | (go_simp; go_at_call 111; refine Calls.mono (R := fun e w4 => FrmN B m low s f st y lo v (some ⟨b, off, none⟩) cap W w4 e) (HN.out _ (by first | with_reducible exact hb0 | exact (Below.refl _ _).drew.drew | exact Below.refl _ _)) ?_
       rintro e w4 ⟨g, rfl, km4, k04, ⟨b1, off1, cap1, w1, hrun1, ⟨⟨ux, d0⟩, d1, d2⟩, H1⟩, ⟨b2, off2, cap2, w2, hrun2, ⟨⟨uy, d3⟩, d4, d5⟩, H2⟩, ⟨b3, off3, cap3, w3, hrun3, ⟨⟨uz, d6⟩, d7, d8⟩, H3⟩⟩)
    | (refine step_append_run rfl (.tmp 202) (.tmp 208) 43 rfl (.slice (some ⟨b, off, none⟩) (low.length + 1) cap) (.slice (some ⟨w4.heap.size, 0, none⟩) 1 1) (by simp [Act.eval]) (by simp [Act.eval]) _ _ hrun1 ?_)
    | (refine step_append_run rfl (.tmp 202) (.tmp 208) 43 rfl (.slice (some ⟨b, off, none⟩) (low.length + 1) cap) (.slice (some ⟨w4.heap.size, 0, none⟩) 1 1) (by simp [Act.eval]) (by simp [Act.eval]) _ _ hrun2 ?_)
    | (refine step_append_run rfl (.tmp 202) (.tmp 208) 43 rfl (.slice (some ⟨b, off, none⟩) (low.length + 1) cap) (.slice (some ⟨w4.heap.size, 0, none⟩) 1 1) (by simp [Act.eval]) (by simp [Act.eval]) _ _ hrun3 ?_))
  all_goals
    go_wp2_with fail
    go_end0
    first
      | exact ⟨rfl, by rw [Hs.out]; exact H1.out.1, hbel.trans H1.out.2⟩
      | exact ⟨rfl, by rw [Hs.out]; exact H2.out.1, hbel.trans H2.out.2⟩
      | exact ⟨rfl, by rw [Hs.out]; exact H3.out.1, hbel.trans H3.out.2⟩
end Go.Proofs.YtnknnncehcofnaaGreatDoor

namespace Go.Proofs.YtnknnncehcofnaaGreatDoor
open Go.RowKit

set_option maxRecDepth 100000 in
set_option maxHeartbeats 3200000 in
theorem tailDeep {p : List FnM} {s : StM} {low : List FrM} {f : FrM} {i j : Nat} {hs : List Int} {op x : Int} {st v : List Int} {B m b off cap bp op0 capp P Q : Nat} {v' : Value} {w W : World} (A : Sw p s low f i j hs op x st v B m b off cap bp op0 capp P Q v' w W) (hO : op = 32 ∧ 10 ≤ low.length + 1)
    (c3 c6 c8 c9 c10 c11 c12 c13 c14 c15 c16 c17 c18 c19 c20 c21 c22 c23 c24 c25 c26 c27 c28 c29 c30 c31 c32 c33 c34 c35 c36 c37 c38 c39 c40 c41 c42 c43 c44 c45 c46 c47 c48 c49 c50 c51 c52 c53 c54 c55 c56 c57 c58 c59 c60 c61 c62 c63 c64 c65 c66 c67 c68 c69 c70 c71 c72 c73 c74 c75 c76 c77 c79 c80 c81 c82 c83 c84 c85 c86 c87 c88 c89 c90 c91 c92 c93 c94 c95 c96 c97 c98 c99 c100 c101 c102 c103 c104 c105 c106 c107 c108 c109 c110 c111 c112 c113 c114 c115 c116 c117 c118 c119 c120 c121 c122 c123 c124 c125 c126 c127 c128 c129 c130 c131 c132 c133 c134 c135 c136 c137 c138 c139 c140 c141 c142 c143 c144 c145 c146 c147 c148 c149 c150 c151 c152 c153 c154 c155 c156 c157 c158 c159 c160 c161 c162 c163 c164 c165 c166 c167 c168 c169 c170 c171 c172 c173 c174 c175 c176 c177 c178 c179 c180 c181 c182 c183 c184 c185 c186 c187 c188 c189 c190 c191 c192 c193 c194 c195 c196 c197 c198 c199 c200 c201 c202 c203 c204 c205 c206 c207 c208 c209 c210 c211 c212 c213 c214 c215 c216 c217 c218 c219 c220 c221 c222 c223 c224 c225 c226 c227 c228 c229 c230 c231 c232 c233 c234 c235 c236 c237 c238 c239 c240 c241 c242 c243 c244 c245 c246 c247 c248 c249 c250 c251 c252 c253 c254 c255 c256 c257 c258 c259 c260 c261 c262 c263 c264 c265 c266 c267 c268 c269 c270 c271 c272 c273 c274 c275 c276 c277 c278 c279 : Value) :
    Code.wp Tryz.prog swBlock (bodyPost Tryz.prog Tryz.f56 fun e w' => MacZT B m (stepM p s) (.tuple #[]) w w' e) ⟨#[.agg #[.slice (some ⟨bp, op0, none⟩) p.length capp], .pointer (some ⟨m, 0, none⟩), .pointer (some ⟨P, 0, none⟩), c3, .pointer (some ⟨b, off + low.length * 4, none⟩), .pointer (some ⟨Q, 0, none⟩), c6, v', c8, c9, c10, c11, c12, c13, c14, c15, c16, c17, c18, c19, c20, c21, c22, c23, c24, c25, c26, c27, c28, c29, c30, c31, c32, c33, c34, c35, c36, c37, c38, c39, c40, c41, c42, c43, c44, c45, c46, c47, c48, c49, c50, c51, c52, c53, c54, c55, c56, c57, c58, c59, c60, c61, c62, c63, c64, c65, c66, c67, c68, c69, c70, c71, c72, c73, c74, c75, c76, c77, .int .i64 op, c79, c80, c81, c82, c83, c84, c85, c86, c87, c88, c89, c90, c91, c92, c93, c94, c95, c96, c97, c98, c99, c100, c101, c102, c103, c104, c105, c106, c107, c108, c109, c110, c111, c112, c113, c114, c115, c116, c117, c118, c119, c120, c121, c122, c123, c124, c125, c126, c127, c128, c129, c130, c131, c132, c133, c134, c135, c136, c137, c138, c139, c140, c141, c142, c143, c144, c145, c146, c147, c148, c149, c150, c151, c152, c153, c154, c155, c156, c157, c158, c159, c160, c161, c162, c163, c164, c165, c166, c167, c168, c169, c170, c171, c172, c173, c174, c175, c176, c177, c178, c179, c180, c181, c182, c183, c184, c185, c186, c187, c188, c189, c190, c191, c192, c193, c194, c195, c196, c197, c198, c199, c200, c201, c202, c203, c204, c205, c206, c207, c208, c209, c210, c211, c212, c213, c214, c215, c216, c217, c218, c219, c220, c221, c222, c223, c224, c225, c226, c227, c228, c229, c230, c231, c232, c233, c234, c235, c236, c237, c238, c239, c240, c241, c242, c243, c244, c245, c246, c247, c248, c249, c250, c251, c252, c253, c254, c255, c256, c257, c258, c259, c260, c261, c262, c263, c264, c265, c266, c267, c268, c269, c270, c271, c272, c273, c274, c275, c276, c277, c278, c279], []⟩ W := by
  obtain ⟨hO, h10⟩ := hO
  subst hO
  have hins := A.S.ins
  rw [A.hop] at hins
  simp only at hins
  have hx : 0 ≤ x ∧ x < p.length := by
    unfold rightM at hins
    rw [Bool.and_eq_true, if_neg (by omega), if_neg (by omega), if_neg (by omega), if_pos rfl] at hins
    exact inL_iff.1 hins.2
  obtain ⟨y, rfl⟩ := Int.eq_ofNat_of_zero_le hx.1
  have hy : y < p.length := by omega
  obtain ⟨ww, _, _⟩ := ((A.S.right.all.2.2 y hy).well rfl)
  simp [formOk] at ww
  have htk : takesM p 32 (y : Int) = (fnAt p y).args := by unfold takesM; rw [if_pos rfl, if_pos hx]
  have hfay : fnAt p y = p[y] := by unfold fnAt; simp [hy]
  rw [hfay] at htk ww
  obtain ⟨lo, hlo⟩ := Int.eq_ofNat_of_zero_le (show 0 ≤ p[y].locals by omega)
  have hlo8 : lo ≤ 8 := by omega
  have hvlo : v.length ≤ lo := by
    have a1 := A.many
    rw [htk] at a1
    omega
  have hten := A.S.ten
  clear hins hx ww htk
  have HA : Hid (Sw p s low f i j hs 32 (y : Int) st v B m b off cap bp op0 capp P Q v' w W) := A
  obtain ⟨own, V, C, M, hf, hfree⟩ := A.mac
  have k0 := A.q0
  have k1 := A.q1
  have kp := A.qp
  obtain ⟨b', off', cap', T⟩ := M.top (low := low) (f := ⟨f.func, f.pc + 1, f.locals, st⟩) rfl
  have e := T.slice
  rw [hf] at e
  simp only [Value.slice.injEq, Option.some.injEq, Addr.mk.injEq, and_true] at e
  obtain ⟨⟨rfl, rfl⟩, -⟩ := e
  have h88 := A.S.h8
  have hsl : st.length ≤ 8 := by have := congrArg List.length A.left; rw [List.length_take] at this; omega
  obtain ⟨-, A3, cs3, hVk, -⟩ := M.stkRow (low := low) (f := ⟨f.func, f.pc + 1, f.locals, st⟩) rfl (by simp only; omega)
  have k3 := T.c3
  rw [hVk] at k3
  simp only at k3
  have kl := T.lt
  have kne := T.ne
  have kf3 := T.f3
  have kb : B ≤ W.heap.size := Nat.le_of_lt (Nat.lt_of_le_of_lt M.base M.lt)
  have hmz := M.zcell.1
  rw [hf] at hmz
  have kml := M.lt
  have kf0 := M.zthaw 0 (by omega)
  have hr := A.row
  obtain ⟨Av, cv, hvf⟩ := hr.form
  subst hvf
  have h10 : 10 ≤ (low.length : Int) + 1 := by omega
  have Hs : Hid (stepM p s = ⟨[], s.heap, s.out, s.fuel - 1, true, s.value, 15⟩) := by
    obtain ⟨e1, e2, e3⟩ := A.S.top
    show stepM p s = _
    unfold stepM
    dsimp only
    rw [e1, e3, A.hop]
    have hfl : ¬ s.frames.length < 10 := by rw [A.S.frames, List.length_append, List.length_singleton]; omega
    simp [hfl, trapM]
  have HT : Hid (Calls Tryz.prog 110 #[.pointer (some ⟨m, 0, none⟩), .int .i64 15] W fun e w' => MacZT B m ⟨[], s.heap, s.out, s.fuel - 1, true, s.value, 15⟩ (.tuple #[]) W w' e) := specTrap B m _ 15 W ⟨_, _, _, M⟩
  have hbel := A.bel
  clear A M T hVk
  conv => arg 2; whnf
  go_wp2_with fail
  refine Calls.mono (R := fun e w' => MacZT B m ⟨[], s.heap, s.out, s.fuel - 1, true, s.value, 15⟩ (.tuple #[]) W w' e) HT.out ?_
  rintro e w1 ⟨rfl, hM1, hb1⟩
  have H1 : Hid (MacZ B m w1 _ ∧ Below B W w1) := ⟨hM1, hb1⟩
  clear hM1 hb1 HT
  go_wp2_with fail
  refine bodyPost_ret (results_none rfl _ _ _) rfl ⟨rfl, ?_, hbel.trans H1.out.2⟩
  rw [Hs.out]
  exact H1.out.1
end Go.Proofs.YtnknnncehcofnaaGreatDoor
