/- spec.l06Step: a branch of its switch. -/
import Derived.Test.YtnknnncehcofnaaGreatDoorJ39SpDo
import Derived.Deep.CutRange
namespace Go.Proofs.YtnknnncehcofnaaGreatDoor
open Go.RowKit

/-- the instruction's two cells stay, the block R's two cells are noughts, the frames lie where they lay -/
def doPr (R Q : Nat) (op x : Int) (F : Value) : Pr := ⟨fun _ => none, fun b j => if b = Q ∧ j = 0 then some (.int .i64 op) else if b = Q ∧ j = 1 then some (.int .i64 x) else if b = R ∧ j < 2 then some (.int .i64 0) else none, some F⟩
def frPr (Q : Nat) (op x : Int) (F : Value) : Pr := ⟨fun _ => none, fun b j => if b = Q ∧ j = 0 then some (.int .i64 op) else if b = Q ∧ j = 1 then some (.int .i64 x) else none, some F⟩

/-- where an instruction stands beside a machine -/
def InsAt (B m Q : Nat) (op x : Int) (own : Nat → Nat → Tag) (W : World) : Prop := (∀ i, own Q i = .no) ∧ Q ≠ m ∧ B ≤ Q ∧ Q < W.heap.size ∧ W.cell? ⟨Q, 0, none⟩ = some (.int .i64 op) ∧ W.cell? ⟨Q, 1, none⟩ = some (.int .i64 x) ∧ ∀ i, i < 2 → W.frozen? ⟨Q, i, none⟩ = false

theorem Mac.toFr {B m Q : Nat} {op x : Int} {own : Nat → Nat → Tag} {W : World} {V : Tag → Value} {C : Tag → List Value} {s : StM} (M : Mac B m 0 noPr own W V C s) (h : InsAt B m Q op x own W) : Mac B m 0 (frPr Q op x (V .fr)) own W V C s := by
  obtain ⟨h1, h2, h3, h4, h5, h6, h7⟩ := h
  refine ⟨M.l, M.k, M.free, M.base, M.lt, M.cs, ⟨fun j hj => absurd hj (by omega), fun u hu => ?_, fun b j u hu => ?_⟩⟩
  · have : V .fr = u := by simpa [frPr] using hu
    rw [← this]
    exact M.zcell.1
  · unfold frPr at hu
    simp only at hu
    split at hu
    · rename_i h
      obtain ⟨rfl, rfl⟩ := h
      simp only [Option.some.injEq] at hu
      subst hu
      exact ⟨h1, h2, h3, h4, h5, h7 0 (by omega)⟩
    · split at hu
      · rename_i h
        obtain ⟨rfl, rfl⟩ := h
        simp only [Option.some.injEq] at hu
        subst hu
        exact ⟨h1, h2, h3, h4, h6, h7 1 (by omega)⟩
      · cases hu

theorem InsAt.below {B m Q : Nat} {op x : Int} {own : Nat → Nat → Tag} {W W' : World} (h : InsAt B m Q op x own W) (hb : Below W.heap.size W W') : InsAt B m Q op x own W' := by
  obtain ⟨h1, h2, h3, h4, h5, h6, h7⟩ := h
  exact ⟨h1, h2, h3, Nat.lt_of_lt_of_le h4 hb.size, by rw [hb.cell (by exact h4)]; exact h5, by rw [hb.cell (by exact h4)]; exact h6, fun i hi => by rw [hb.frozen (by exact h4)]; exact h7 i hi⟩

theorem mac_toDo {B m Q : Nat} {op x : Int} {own : Nat → Nat → Tag} {W : World} {V : Tag → Value} {C : Tag → List Value} {s : StM} (M : Mac B m 0 noPr own W V C s) (h : InsAt B m Q op x own W) (t : TypeId) : Mac B m 0 (doPr W.heap.size Q op x (V .fr)) (cutOwn W.heap.size own) (W.alloc (.cells #[.int .i64 0, .int .i64 0] t)) V C s := by
  have hal : Below W.heap.size W (W.alloc (.cells #[.int .i64 0, .int .i64 0] t)) := (Below.refl W.heap.size W).alloc (Nat.le_refl _) _
  have M1 := M.cutOwn.below hal
  have hV := vrow_new W #[.int .i64 0, .int .i64 0] t
  obtain ⟨h1, h2, h3, h4, h5, h6, h7⟩ := h.below hal
  have h8 := h.2.2.2.1
  have h9 : ∀ i, cutOwn W.heap.size own Q i = .no := fun i => by show (if Q < W.heap.size then own Q i else .no) = _; rw [if_pos h8]; exact h1 i
  refine ⟨M1.l, M1.k, M1.free, M1.base, M1.lt, M1.cs, ⟨fun j hj => absurd hj (by omega), fun u hu => ?_, fun b j u hu => ?_⟩⟩
  · have : V .fr = u := by simpa [doPr] using hu
    rw [← this]
    exact M1.zcell.1
  · unfold doPr at hu
    simp only at hu
    split at hu
    · rename_i h
      obtain ⟨rfl, rfl⟩ := h
      simp only [Option.some.injEq] at hu
      subst hu
      exact ⟨h9, h2, h3, h4, h5, h7 0 (by omega)⟩
    · split at hu
      · rename_i h
        obtain ⟨rfl, rfl⟩ := h
        simp only [Option.some.injEq] at hu
        subst hu
        exact ⟨h9, h2, h3, h4, h6, h7 1 (by omega)⟩
      · split at hu
        · rename_i h
          obtain ⟨rfl, hj⟩ := h
          simp only [Option.some.injEq] at hu
          subst hu
          refine ⟨fun i => ?_, Nat.ne_of_gt M.lt, Nat.le_of_lt (Nat.lt_of_le_of_lt M.base M.lt), hV.1, ?_, ?_⟩
          · show (if W.heap.size < W.heap.size then _ else _) = _
            rw [if_neg (Nat.lt_irrefl _)]
          · obtain rfl | rfl : j = 0 ∨ j = 1 := by omega
            · exact (hV.2 0 (by simp)).1
            · exact (hV.2 1 (by simp)).1
          · obtain rfl | rfl : j = 0 ∨ j = 1 := by omega
            · exact (hV.2 0 (by simp)).2
            · exact (hV.2 1 (by simp)).2
        · cases hu

theorem Mac.toNo {B m : Nat} {pr : Pr} {own : Nat → Nat → Tag} {W : World} {V : Tag → Value} {C : Tag → List Value} {s : StM} (M : Mac B m 0 pr own W V C s) : Mac B m 0 noPr own W V C s :=
  ⟨M.l, M.k, M.free, M.base, M.lt, M.cs, ⟨fun j hj => absurd hj (by omega), fun u hu => (by cases hu), fun b j u hu => by cases hu⟩⟩

/-- the answer of l06Do stands in a block of its own; the machine beside it, its frames where they lay -/
def DoCut (B m Q : Nat) (op x : Int) (s' : StM) (F : Value) (r t : Int) (W wc : World) (q : Value) : Prop :=
  ∃ R, q = .pointer (some ⟨R, 0, none⟩) ∧ R < wc.heap.size ∧ wc.cell? ⟨R, 0, none⟩ = some (.int .i64 r) ∧ wc.cell? ⟨R, 1, none⟩ = some (.int .i64 t) ∧ (Q < wc.heap.size ∧ wc.cell? ⟨Q, 0, none⟩ = some (.int .i64 op) ∧ wc.cell? ⟨Q, 1, none⟩ = some (.int .i64 x)) ∧ (∃ own V C, Mac B m 0 noPr own wc V C s' ∧ V .fr = F) ∧ Below B W wc

theorem doCut_after {B m Q : Nat} {op x : Int} {s' : StM} {F : Value} {r t : Int} {W w1 : World} (h : MacY (frPr Q op x F) B m w1 s') (hb : Below B W w1) (ty : TypeId) : DoCut B m Q op x s' F r t W (w1.alloc (.cells #[.int .i64 r, .int .i64 t] ty)) (.pointer (some ⟨w1.heap.size, 0, none⟩)) := by
  obtain ⟨own, V, C, M⟩ := h
  have hal : Below w1.heap.size w1 (w1.alloc (.cells #[.int .i64 r, .int .i64 t] ty)) := (Below.refl _ _).alloc (Nat.le_refl _) _
  have hV := vrow_new w1 #[.int .i64 r, .int .i64 t] ty
  have hF := M.pre.2.1 F rfl
  rw [M.zcell.1] at hF
  obtain ⟨-, -, -, q4, q5, -⟩ := M.pre.2.2 Q 0 (.int .i64 op) (by simp [frPr])
  obtain ⟨-, -, -, -, q6, -⟩ := M.pre.2.2 Q 1 (.int .i64 x) (by simp [frPr])
  exact ⟨_, rfl, hV.1, (hV.2 0 (by simp)).1, (hV.2 1 (by simp)).1, ⟨Nat.lt_of_lt_of_le q4 hal.size, by rw [hal.cell (by exact q4)]; exact q5, by rw [hal.cell (by exact q4)]; exact q6⟩, ⟨own, V, C, M.toNo.below hal, by simpa using hF⟩, hb.alloc (Nat.le_of_lt (Nat.lt_of_le_of_lt M.base M.lt)) _⟩

theorem doCut_before {B m R Q : Nat} {op x : Int} {s' : StM} {F : Value} {r t : Int} {W w1 : World} (hRQ : R ≠ Q) (h : MacY (doPr R Q op x F) B m w1 s') (hb : Below B W w1) :
    (w1.cell? ⟨R, 0, none⟩ = some (.int .i64 0) ∧ w1.cell? ⟨R, 1, none⟩ = some (.int .i64 0) ∧ w1.frozen? ⟨R, 0, none⟩ = false ∧ w1.frozen? ⟨R, 1, none⟩ = false ∧ R < w1.heap.size) ∧
    Hid (DoCut B m Q op x s' F r t W ((w1.setCell ⟨R, 0, none⟩ (.int .i64 r)).setCell ⟨R, 1, none⟩ (.int .i64 t)) (.pointer (some ⟨R, 0, none⟩))) := by
  obtain ⟨own, V, C, M⟩ := h
  obtain ⟨a1, a2, a3, a4, a5, a6⟩ := M.pre.2.2 R 0 (.int .i64 0) (by simp [doPr, hRQ])
  obtain ⟨-, -, -, -, b5, b6⟩ := M.pre.2.2 R 1 (.int .i64 0) (by simp [doPr, hRQ])
  obtain ⟨-, -, -, q4, q5, -⟩ := M.pre.2.2 Q 0 (.int .i64 op) (by simp [doPr])
  obtain ⟨-, -, -, -, q6, -⟩ := M.pre.2.2 Q 1 (.int .i64 x) (by simp [doPr])
  have hF := M.pre.2.1 F rfl
  rw [M.zcell.1] at hF
  have hq : ∀ j, ((w1.setCell ⟨R, 0, none⟩ (.int .i64 r)).setCell ⟨R, 1, none⟩ (.int .i64 t)).cell? ⟨Q, j, none⟩ = w1.cell? ⟨Q, j, none⟩ := fun j => by
    rw [World.cell?_setCell_other _ _ _ _ (by intro e; simp only [Addr.mk.injEq] at e; exact hRQ e.1), World.cell?_setCell_other _ _ _ _ (by intro e; simp only [Addr.mk.injEq] at e; exact hRQ e.1)]
  refine ⟨⟨a5, b5, a6, b6, a4⟩, R, rfl, by simpa using a4, ?_, ?_, ⟨by simpa using q4, by rw [hq]; exact q5, by rw [hq]; exact q6⟩, ⟨own, V, C, (M.toNo.setFree R 0 _ a1 a2 a3 (fun _ => rfl)).setFree R 1 _ a1 a2 a3 (fun _ => rfl), by simpa using hF⟩, (hb.setCell a3 _).setCell a3 _⟩
  · rw [cell_set_far _ _ _ _ _ (by omega)]; exact World.cell?_setCell_same _ _ _ a5
  · exact World.cell?_setCell_same _ _ _ (by rw [cell_set_far _ _ _ _ _ (by omega)]; exact b5)

theorem puts_do {op : Int} (h : (10 ≤ op ∧ op ≤ 29) ∨ (34 ≤ op ∧ op ≤ 37)) : (opRow op).2.2.2 = if op = 36 then 0 else 1 := by
  obtain ⟨k, rfl⟩ := Int.eq_ofNat_of_zero_le (show 0 ≤ op by omega)
  have : ∀ k : Fin 39, ((10 ≤ k.1 ∧ k.1 ≤ 29) ∨ (34 ≤ k.1 ∧ k.1 ≤ 37)) → (opN k.1).2.2.2 = if k.1 = 36 then 0 else 1 := by decide
  have h2 := this ⟨k, by omega⟩ (by simp only; omega)
  unfold opRow
  rw [if_pos (by omega)]
  simp only [Int.toNat_natCast]
  rw [h2]
  by_cases e : k = 36
  · subst e; rfl
  · rw [if_neg e, if_neg (by omega)]

set_option maxRecDepth 100000 in
set_option maxHeartbeats 3200000 in
theorem tailDo {p : List FnM} {s : StM} {low : List FrM} {f : FrM} {i j : Nat} {hs : List Int} {op x : Int} {st v : List Int} {B m b off cap bp op0 capp P Q : Nat} {v' : Value} {w W : World} (A : Sw p s low f i j hs op x st v B m b off cap bp op0 capp P Q v' w W) (hO : (10 ≤ op ∧ op ≤ 29) ∨ (34 ≤ op ∧ op ≤ 37))
    (c3 c6 c8 c9 c10 c11 c12 c13 c14 c15 c16 c17 c18 c19 c20 c21 c22 c23 c24 c25 c26 c27 c28 c29 c30 c31 c32 c33 c34 c35 c36 c37 c38 c39 c40 c41 c42 c43 c44 c45 c46 c47 c48 c49 c50 c51 c52 c53 c54 c55 c56 c57 c58 c59 c60 c61 c62 c63 c64 c65 c66 c67 c68 c69 c70 c71 c72 c73 c74 c75 c76 c77 c79 c80 c81 c82 c83 c84 c85 c86 c87 c88 c89 c90 c91 c92 c93 c94 c95 c96 c97 c98 c99 c100 c101 c102 c103 c104 c105 c106 c107 c108 c109 c110 c111 c112 c113 c114 c115 c116 c117 c118 c119 c120 c121 c122 c123 c124 c125 c126 c127 c128 c129 c130 c131 c132 c133 c134 c135 c136 c137 c138 c139 c140 c141 c142 c143 c144 c145 c146 c147 c148 c149 c150 c151 c152 c153 c154 c155 c156 c157 c158 c159 c160 c161 c162 c163 c164 c165 c166 c167 c168 c169 c170 c171 c172 c173 c174 c175 c176 c177 c178 c179 c180 c181 c182 c183 c184 c185 c186 c187 c188 c189 c190 c191 c192 c193 c194 c195 c196 c197 c198 c199 c200 c201 c202 c203 c204 c205 c206 c207 c208 c209 c210 c211 c212 c213 c214 c215 c216 c217 c218 c219 c220 c221 c222 c223 c224 c225 c226 c227 c228 c229 c230 c231 c232 c233 c234 c235 c236 c237 c238 c239 c240 c241 c242 c243 c244 c245 c246 c247 c248 c249 c250 c251 c252 c253 c254 c255 c256 c257 c258 c259 c260 c261 c262 c263 c264 c265 c266 c267 c268 c269 c270 c271 c272 c273 c274 c275 c276 c277 c278 c279 : Value) :
    Code.wp Tryz.prog swBlock (bodyPost Tryz.prog Tryz.f56 fun e w' => MacZT B m (stepM p s) (.tuple #[]) w w' e) ⟨#[.agg #[.slice (some ⟨bp, op0, none⟩) p.length capp], .pointer (some ⟨m, 0, none⟩), .pointer (some ⟨P, 0, none⟩), c3, .pointer (some ⟨b, off + low.length * 4, none⟩), .pointer (some ⟨Q, 0, none⟩), c6, v', c8, c9, c10, c11, c12, c13, c14, c15, c16, c17, c18, c19, c20, c21, c22, c23, c24, c25, c26, c27, c28, c29, c30, c31, c32, c33, c34, c35, c36, c37, c38, c39, c40, c41, c42, c43, c44, c45, c46, c47, c48, c49, c50, c51, c52, c53, c54, c55, c56, c57, c58, c59, c60, c61, c62, c63, c64, c65, c66, c67, c68, c69, c70, c71, c72, c73, c74, c75, c76, c77, .int .i64 op, c79, c80, c81, c82, c83, c84, c85, c86, c87, c88, c89, c90, c91, c92, c93, c94, c95, c96, c97, c98, c99, c100, c101, c102, c103, c104, c105, c106, c107, c108, c109, c110, c111, c112, c113, c114, c115, c116, c117, c118, c119, c120, c121, c122, c123, c124, c125, c126, c127, c128, c129, c130, c131, c132, c133, c134, c135, c136, c137, c138, c139, c140, c141, c142, c143, c144, c145, c146, c147, c148, c149, c150, c151, c152, c153, c154, c155, c156, c157, c158, c159, c160, c161, c162, c163, c164, c165, c166, c167, c168, c169, c170, c171, c172, c173, c174, c175, c176, c177, c178, c179, c180, c181, c182, c183, c184, c185, c186, c187, c188, c189, c190, c191, c192, c193, c194, c195, c196, c197, c198, c199, c200, c201, c202, c203, c204, c205, c206, c207, c208, c209, c210, c211, c212, c213, c214, c215, c216, c217, c218, c219, c220, c221, c222, c223, c224, c225, c226, c227, c228, c229, c230, c231, c232, c233, c234, c235, c236, c237, c238, c239, c240, c241, c242, c243, c244, c245, c246, c247, c248, c249, c250, c251, c252, c253, c254, c255, c256, c257, c258, c259, c260, c261, c262, c263, c264, c265, c266, c267, c268, c269, c270, c271, c272, c273, c274, c275, c276, c277, c278, c279], []⟩ W := by
  have q1 : ¬ op = 1 := by omega
  have r1 : (op == 1) = false := by simpa using q1
  have q2 : ¬ op = 2 := by omega
  have r2 : (op == 2) = false := by simpa using q2
  have q3 : ¬ op = 3 := by omega
  have r3 : (op == 3) = false := by simpa using q3
  have q4 : ¬ op = 4 := by omega
  have r4 : (op == 4) = false := by simpa using q4
  have q5 : ¬ op = 5 := by omega
  have r5 : (op == 5) = false := by simpa using q5
  have q30 : ¬ op = 30 := by omega
  have r30 : (op == 30) = false := by simpa using q30
  have q31 : ¬ op = 31 := by omega
  have r31 : (op == 31) = false := by simpa using q31
  have q32 : ¬ op = 32 := by omega
  have r32 : (op == 32) = false := by simpa using q32
  have q33 : ¬ op = 33 := by omega
  have r33 : (op == 33) = false := by simpa using q33
  have q38 : ¬ op = 38 := by omega
  have r38 : (op == 38) = false := by simpa using q38
  have HA : Hid (Sw p s low f i j hs op x st v B m b off cap bp op0 capp P Q v' w W) := A
  obtain ⟨own, V, C, M, hf, hfree⟩ := A.mac
  have k0 := A.q0
  have k1 := A.q1
  have kp := A.qp
  obtain ⟨b', off', cap', T⟩ := M.top (low := low) (f := ⟨f.func, f.pc + 1, f.locals, st⟩) rfl
  have e := T.slice
  rw [hf] at e
  simp only [Value.slice.injEq, Option.some.injEq, Addr.mk.injEq, and_true] at e
  obtain ⟨⟨rfl, rfl⟩, -⟩ := e
  have h88 := A.S.h8
  have hsl : st.length ≤ 8 := by have := congrArg List.length A.left; rw [List.length_take] at this; omega
  obtain ⟨-, A3, cs3, hVk, -⟩ := M.stkRow (low := low) (f := ⟨f.func, f.pc + 1, f.locals, st⟩) rfl (by simp only; omega)
  have k3 := T.c3
  rw [hVk] at k3
  simp only at k3
  have kl := T.lt
  have kne := T.ne
  have kf3 := T.f3
  have kb : B ≤ W.heap.size := Nat.le_of_lt (Nat.lt_of_le_of_lt M.base M.lt)
  have kmz := M.lt
  have kQl := A.ql
  have hr := A.row
  obtain ⟨Av, cv, hvf⟩ := hr.form
  subst hvf
  have hmany : (v.length : Int) = (opRow op).2.2.1 := by rw [A.many, takes_other p op x (by omega)]
  obtain ⟨hh1, hh2⟩ := A.S.heap
  have hIns : InsAt B m Q op x own W := ⟨hfree, A.qm, A.qB, A.ql, A.q0, A.q1, A.qf⟩
  have hRQ : W.heap.size ≠ Q := Nat.ne_of_gt A.ql
  obtain ⟨sM, hsM⟩ : ∃ sM : StM, sM = ⟨low ++ [⟨f.func, f.pc + 1, f.locals, st⟩], s.heap, s.out, s.fuel - 1, s.done, s.value, s.trap⟩ := ⟨_, rfl⟩
  rw [← hsM] at M
  obtain ⟨rr, tt, hp, hdm⟩ : ∃ rr tt hp, ((rr, tt), hp) = doM op v s.heap := ⟨_, _, _, rfl⟩
  have hD : ∀ (pr : Pr) (X : World), MacY pr B m X sM → IRow 0 X (.slice Av v.length cv) v → Calls Tryz.prog 112 #[.int .i64 op, .slice Av v.length cv, .pointer (some ⟨m, 1, none⟩)] X fun e w1 => e = .returned (.agg #[.int .i64 rr, .int .i64 tt]) ∧ MacY pr B m w1 { sM with heap := hp } ∧ Below B X w1 := by
    intro pr X hX hvX
    refine Calls.mono (specDo B m sM op v 0 _ X hX hvX hO hmany (by rw [hsM]; exact hh1)) ?_
    rintro e w1 ⟨h1, h2, h3⟩
    have e5 : sM.heap = s.heap := by rw [hsM]
    rw [e5, ← hdm] at h1 h2
    exact ⟨h1, h2, h3⟩
  have HD : Hid (∀ (pr : Pr) (X : World), MacY pr B m X sM → IRow 0 X (.slice Av v.length cv) v → Calls Tryz.prog 112 #[.int .i64 op, .slice Av v.length cv, .pointer (some ⟨m, 1, none⟩)] X fun e w1 => e = .returned (.agg #[.int .i64 rr, .int .i64 tt]) ∧ MacY pr B m w1 { sM with heap := hp } ∧ Below B X w1) := hD
  have HM0 : Hid (MacY (frPr Q op x (V .fr)) B m W.drew sM ∧ IRow 0 W.drew (.slice Av v.length cv) v ∧ Below B W W.drew) := ⟨⟨_, _, _, (M.below (Below.refl _ _).drew).toFr (hIns.below (Below.refl _ _).drew)⟩, hr.below (Below.refl _ _).drew, (Below.refl _ _).drew⟩
  have HM1 : Hid (MacY (doPr W.heap.size Q op x (V .fr)) B m (W.alloc (.cells #[.int .i64 0, .int .i64 0] 166)).drew sM ∧ IRow 0 (W.alloc (.cells #[.int .i64 0, .int .i64 0] 166)).drew (.slice Av v.length cv) v ∧ Below B W (W.alloc (.cells #[.int .i64 0, .int .i64 0] 166)).drew) := ⟨⟨_, _, _, (mac_toDo M hIns 166).below (Below.refl _ _).drew⟩, hr.below ((Below.refl _ _).alloc (Nat.le_refl _) _).drew, ((Below.refl _ _).alloc kb _).drew⟩
  have HM2 : Hid (MacY (doPr W.heap.size Q op x (V .fr)) B m (W.drew.alloc (.cells #[.int .i64 0, .int .i64 0] 166)) sM ∧ IRow 0 (W.drew.alloc (.cells #[.int .i64 0, .int .i64 0] 166)) (.slice Av v.length cv) v ∧ Below B W (W.drew.alloc (.cells #[.int .i64 0, .int .i64 0] 166))) := ⟨⟨_, _, _, mac_toDo (M.below (Below.refl _ _).drew) (hIns.below (Below.refl _ _).drew) 166⟩, hr.below ((Below.refl _ _).drew.alloc (Nat.le_refl _) _), (Below.refl _ _).drew.alloc kb _⟩
  have HS5 : Hid (sM = _) := hsM
  have Hdm : Hid (((rr, tt), hp) = doM op v s.heap) := hdm
  have Hf : Hid (V .fr = _) := hf
  have HOp : Hid ((10 ≤ op ∧ op ≤ 29) ∨ (34 ≤ op ∧ op ≤ 37)) := hO
  clear hD hsM hdm hr A M T hVk k3 kf3 hf hIns hfree hO
  conv => arg 2; whnf
  go_upto_region 9 with fail
  go_cut [9] from 79 to 85 (fun q wc => DoCut B m Q op x { sM with heap := hp } (V .fr) rr tt W wc q)
  case first =>
    go_region_with (first
      | (go_at_call 112; refine Calls.mono (HD.out _ _ HM0.out.1 HM0.out.2.1) ?_; rintro e w1 ⟨rfl, hY, hbY⟩
         have HY0 : Hid (MacY (frPr Q op x (V .fr)) B m w1 { sM with heap := hp } ∧ Below B W w1) := ⟨hY, HM0.out.2.2.trans hbY⟩
         clear hY hbY)
      | (go_at_call 112; refine Calls.mono (HD.out _ _ HM1.out.1 HM1.out.2.1) ?_; rintro e w1 ⟨rfl, hY, hbY⟩
         obtain ⟨⟨y0, y1, y2, y3, y4⟩, HY1⟩ := doCut_before hRQ (r := rr) (t := tt) hY (HM1.out.2.2.trans hbY)
         clear hY hbY)
      | (go_at_call 112; refine Calls.mono (HD.out _ _ HM2.out.1 HM2.out.2.1) ?_; rintro e w1 ⟨rfl, hY, hbY⟩
         obtain ⟨⟨y0, y1, y2, y3, y4⟩, HY1⟩ := doCut_before hRQ (r := rr) (t := tt) hY (HM2.out.2.2.trans hbY)
         clear hY hbY))
    all_goals
      go_wp2_with fail
      go_meet
      first
        | exact HY1.out
        | exact doCut_after HY0.out.1 HY0.out.2 _
  case rest =>
    obtain ⟨R, rfl, hRl, r0, r1, ⟨hQl, hq0, hq1⟩, ⟨own2, V2, C2, M2, hf2⟩, hbc⟩ := hcut
    have HbW : Hid (Below B w wc) := HA.out.bel.trans hbc
    have e5 := HS5.out
    rw [e5] at M2
    simp only at M2
    have hst : stepM p s = if tt ≠ 0 then trapM s hp tt else { withM s ⟨f.func, f.pc + 1, f.locals, if op = 36 then st else st ++ [rr]⟩ with heap := hp } := by
      obtain ⟨e1, e2, e3⟩ := HA.out.S.top
      unfold stepM
      dsimp only
      rw [e1, e3, HA.out.hop]
      simp only
      rw [← HA.out.cut, ← HA.out.left, ← HA.out.taken, ← Hdm.out, if_neg q1, if_neg q2, if_neg q3, if_neg q4, if_neg q5, if_neg q30, if_neg q31, if_neg q32, if_neg q33, if_neg q38]
    have hlow : lowM s = low := HA.out.S.top.2.1
    unfold withM trapM at hst
    rw [hlow] at hst
    simp only at hst
    have Hst : Hid (stepM p s = _) := hst
    have kml := M2.lt
    clear hst hlow e5 hbc HD HM0 HM1 HM2 k0 k1 kp hmany
    by_cases ht : tt = 0
    · subst ht
      have hPt := specPuts op x wc
      have HPt : Hid (Calls Tryz.prog 113 #[.agg #[.int .i64 op, .int .i64 x]] wc fun e w' => e = .returned (.int .i64 (opRow op).2.2.2) ∧ Below wc.heap.size wc w') := hPt
      have HM2 : Hid (Mac B m 0 noPr own2 wc V2 C2 _) := M2
      clear hPt M2
      go_wp2_with fail
      refine Calls.mono (R := fun e w' => e = .returned (.int .i64 (opRow op).2.2.2) ∧ Below wc.heap.size wc w') HPt.out ?_
      rintro e w3 ⟨rfl, hb3⟩
      have HM3 : Hid (Mac B m 0 noPr own2 w3 V2 C2 _) := HM2.out.below hb3
      have Hb3 : Hid (Below B w w3) := HbW.out.trans (hb3.mono (Nat.le_of_lt (Nat.lt_of_le_of_lt HM2.out.base HM2.out.lt)))
      have r03 : w3.cell? ⟨R, 0, none⟩ = some (.int .i64 rr) := by rw [hb3.cell (by exact hRl)]; exact r0
      rw [puts_do HOp.out]
      clear hb3 HPt HM2 r0 r1 hRl hq0 hq1 hQl kml
      by_cases h36 : op = 36
      · rw [if_pos h36]
        go_wp2_with fail
        go_end0
        refine ⟨rfl, ?_, Hb3.out⟩
        rw [Hst.out, if_neg (by simp), if_pos h36]
        exact ⟨_, _, _, HM3.out⟩
      · rw [if_neg h36]
        obtain ⟨b', off', cap', T6⟩ := HM3.out.top (low := low) (f := ⟨f.func, f.pc + 1, f.locals, st⟩) rfl
        have e6 := T6.slice
        rw [hf2, Hf.out] at e6
        simp only [Value.slice.injEq, Option.some.injEq, Addr.mk.injEq, and_true] at e6
        obtain ⟨⟨rfl, rfl⟩, -⟩ := e6
        obtain ⟨-, A6, cs6, hVk6, -⟩ := HM3.out.stkRow (low := low) (f := ⟨f.func, f.pc + 1, f.locals, st⟩) rfl (by simp only; omega)
        have j3 := T6.c3
        rw [hVk6] at j3
        simp only at j3
        have jf3 := T6.f3
        have jl := T6.lt
        have hput := put_at HM3.out (k := st.length) (g := ⟨f.func, f.pc + 1, f.locals, st⟩) rfl (hf2.trans Hf.out) rfl j3 (by omega) [rr] (by simp) (by simp)
        have hal : Below w3.heap.size w3 (w3.drew.alloc (.cells #[.int .i64 rr] 2)) := (Below.refl _ _).drew.alloc (Nat.le_refl _) _
        obtain ⟨b1, off1, cap1, w4, hrun, ⟨⟨ux, d0⟩, d1, d2⟩, H1⟩ := hput _ ⟨w3.heap.size, 0, none⟩ hal (fun q hq => by
          have hX := box_new w3.drew #[.int .i64 rr] 2
          match q, hq with
          | 0, _ => exact hX.at0)
        have hal2 : Below w3.heap.size w3 (w3.alloc (.cells #[.int .i64 rr] 2)).drew := ((Below.refl _ _).alloc (Nat.le_refl _) _).drew
        obtain ⟨b2, off2, cap2, w5, hrun2, ⟨⟨uy, d3⟩, d4, d5⟩, H2⟩ := hput _ ⟨w3.heap.size, 0, none⟩ hal2 (fun q hq => by
          have hX := (box_new w3 #[.int .i64 rr] 2).below (Below.refl _ _).drew
          match q, hq with
          | 0, _ => exact hX.at0)
        simp only [List.length_cons, List.length_nil, Nat.zero_add] at hrun H1 hrun2 H2
        have Hst2 : Hid (stepM p s = ⟨low ++ [⟨f.func, f.pc + 1, f.locals, st ++ [rr]⟩], hp, s.out, s.fuel - 1, s.done, s.value, s.trap⟩) := by
          show stepM p s = _
          rw [Hst.out, if_neg (by simp), if_neg h36]
        clear hput hal hal2 T6 hVk6 HM3 Hst hf2
        go_wp2_with fail
        go_region_law (first | (refine step_append_run rfl (.tmp 100) (.tmp 103) 28 rfl (.slice A6 st.length cs6) (.slice (some ⟨w3.heap.size, 0, none⟩) 1 1) (by simp [Act.eval]) (by simp [Act.eval]) _ _ hrun ?_) | (refine step_append_run rfl (.tmp 100) (.tmp 103) 28 rfl (.slice A6 st.length cs6) (.slice (some ⟨w3.heap.size, 0, none⟩) 1 1) (by simp [Act.eval]) (by simp [Act.eval]) _ _ hrun2 ?_))
        all_goals
          go_wp2_with fail
          go_end0
          first
            | exact ⟨rfl, by rw [Hst2.out]; exact H1.out.1, Hb3.out.trans H1.out.2⟩
            | exact ⟨rfl, by rw [Hst2.out]; exact H2.out.1, Hb3.out.trans H2.out.2⟩
    · have htb : (tt == 0) = false := by simpa using ht
      have hT := specTrap B m _ tt wc ⟨_, _, _, M2⟩
      simp only at hT
      have HT : Hid (Calls Tryz.prog 110 #[.pointer (some ⟨m, 0, none⟩), .int .i64 tt] wc fun e w' => MacZT B m ⟨[], hp, s.out, s.fuel - 1, true, s.value, tt⟩ (.tuple #[]) wc w' e) := hT
      clear hT M2
      go_wp2_with fail
      refine Calls.mono (R := fun e w' => MacZT B m ⟨[], hp, s.out, s.fuel - 1, true, s.value, tt⟩ (.tuple #[]) wc w' e) HT.out ?_
      rintro e w3 ⟨rfl, hM3, hb3⟩
      have H3 : Hid (MacZ B m w3 _ ∧ Below B wc w3) := ⟨hM3, hb3⟩
      clear hM3 hb3 HT
      go_wp2_with fail
      refine bodyPost_ret (results_none rfl _ _ _) rfl ⟨rfl, ?_, HbW.out.trans H3.out.2⟩
      rw [Hst.out, if_pos ht]
      exact H3.out.1
end Go.Proofs.YtnknnncehcofnaaGreatDoor
