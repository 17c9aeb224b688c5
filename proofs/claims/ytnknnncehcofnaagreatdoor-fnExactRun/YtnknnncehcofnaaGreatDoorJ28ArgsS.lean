/- What a law's argument is told as, and that it is so of each that came in: a list of numbers, a state. impl.behindCall, frameRight. -/
import Derived.Test.YtnknnncehcofnaaGreatDoorJ1OpTab
import Derived.Test.YtnknnncehcofnaaGreatDoorJ0Prg
import Derived.Test.YtnknnncehcofnaaGreatDoorJ13RightP6
import Derived.Test.YtnknnncehcofnaaGreatDoorJ14Marks
import Derived.Laws.StructEq
namespace Go.Proofs.YtnknnncehcofnaaGreatDoor
open Go.RowKit Go.ChangeShapes Go.WideShapes Go.ChangeAt Go.Deep
set_option maxRecDepth 100000

def I64s (l : List Int) : Prop := ∀ z ∈ l, I64 z
def FrM.ok (f : FrM) : Prop := I64 f.func ∧ I64 f.pc ∧ I64s f.locals ∧ I64s f.stack
def StM.ok (s : StM) : Prop := (∀ f ∈ s.frames, f.ok) ∧ (∀ a ∈ s.heap, I64s a) ∧ I64s s.out ∧ I64 s.fuel ∧ I64 s.value ∧ I64 s.trap

def IsInts (w : World) (v : Value) : Prop := ∃ l, IRow 0 w v l ∧ I64s l
def IsState (w : World) (v : Value) : Prop := ∃ x y z s, v = stV x y z s ∧ StRow 0 w x y z s ∧ s.ok

section
variable {H : Type} {enc : TypeId × Value → H} {W : World} {r : Reach} {base : Nat} {v : Value} {d : DataW H} {p : List MemPlace}

theorem iRow_of {fuel : Nat} {x : DataW H × List MemPlace} (h : DataW.trod enc Tryz.prog W 0 (fun _ => true) true fuel 28 [v] = some x) : ∃ c, IRow 0 W v c ∧ I64s c := by
  rcases open_slice Tryz.underlying28 h with ⟨hc, _⟩ | ⟨a, len, cap, m, n, D, Pl, hc, _, hl, hm, hmm, _, hx⟩
  · simp only [List.cons.injEq, and_true] at hc
    subst hc
    exact ⟨[], ⟨none, 0, rfl, by simp, fun i hi => absurd hi (Nat.not_lt_zero _)⟩, fun i hi => by simp at hi⟩
  · simp only [List.cons.injEq, and_true] at hc
    subst hc
    simp only [if_true] at hmm
    subst hmm
    have hC : Tryz.prog.cellsOf 2 = 1 := by kernel_rfl
    rw [hC] at hx
    obtain ⟨q, hq⟩ := choose_lt (α := Int) (p := fun i q => W.cell? (a.add i) = some (.int .i64 q) ∧ I64 q) (fun i hi => by
      obtain ⟨cs, h1, h2⟩ := hx i hi
      obtain ⟨hl1, _, hcell⟩ := World.cells?_some h1
      match cs, hl1 with
      | [u], _ =>
        obtain ⟨y, rfl, hy⟩ := int_of h2
        have e0 := hcell 0 (by omega)
        rw [add_add] at e0
        exact ⟨y, by simpa using e0, hy⟩)
    refine ⟨(List.range len).map q, ⟨some a, m, by simp, by simp; unfold maxLen at hm; omega, fun i hi => ?_⟩, fun z hz => ?_⟩
    · have hi' : i < len := by simpa using hi
      obtain ⟨c0, _⟩ := hq 0 (by omega)
      obtain ⟨b, off, rfl, hlt⟩ := plain_addr (by simpa using c0)
      obtain ⟨e0, _⟩ := hq i (by omega)
      rw [plain_add] at e0
      exact ⟨b, off, rfl, Nat.zero_le _, hlt, by simpa using e0⟩
    · obtain ⟨j, hj, rfl⟩ := List.mem_map.1 hz
      exact (hq j (by have := List.mem_range.1 hj; omega)).2

theorem inInts (hv : Value.okWide Tryz.prog W r base 28 v) (h : DataW.Trod enc Tryz.prog W 0 (fun _ => true) true 28 v d p) : IsInts W v := by
  obtain ⟨a, len, cap, rfl⟩ := okWide_slice Tryz.underlying28 hv
  obtain ⟨fuel, hf⟩ := h
  obtain ⟨c, h1, h2⟩ := iRow_of (show DataW.trod enc Tryz.prog W 0 (fun _ => true) true fuel 28 [.slice a len cap] = some (d, p) from hf)
  exact ⟨c, h1, h2⟩

theorem arrRow_of {fuel : Nat} {x : DataW H × List MemPlace} (h : DataW.trod enc Tryz.prog W 0 (fun _ => true) true fuel 38 [v] = some x) : ∃ c, ArrRow 0 W v c ∧ ∀ a ∈ c, I64s a := by
  rcases open_slice Tryz.underlying38 h with ⟨hc, _⟩ | ⟨a, len, cap, m, n, D, Pl, hc, _, hl, hm, hmm, _, hx⟩
  · simp only [List.cons.injEq, and_true] at hc
    subst hc
    exact ⟨[], ⟨none, 0, rfl, by simp, fun i hi => absurd hi (Nat.not_lt_zero _)⟩, fun i hi => by simp at hi⟩
  · simp only [List.cons.injEq, and_true] at hc
    subst hc
    simp only [if_true] at hmm
    subst hmm
    have hC : Tryz.prog.cellsOf 28 = 1 := by kernel_rfl
    rw [hC] at hx
    obtain ⟨q, hq⟩ := choose_lt (α := Value × List Int) (p := fun i q => W.cell? (a.add i) = some q.1 ∧ IRow 0 W q.1 q.2 ∧ I64s q.2) (fun i hi => by
      obtain ⟨cs, h1, h2⟩ := hx i hi
      obtain ⟨hl1, _, hcell⟩ := World.cells?_some h1
      match cs, hl1 with
      | [u], _ =>
        obtain ⟨c, hr, hy⟩ := iRow_of h2
        have e0 := hcell 0 (by omega)
        rw [add_add] at e0
        exact ⟨(u, c), by simpa using e0, hr, hy⟩)
    refine ⟨(List.range len).map fun i => (q i).2, ⟨some a, m, by simp, by simp; unfold maxLen at hm; omega, fun i hi => ?_⟩, fun z hz => ?_⟩
    · have hi' : i < len := by simpa using hi
      obtain ⟨c0, _⟩ := hq 0 (by omega)
      obtain ⟨b, off, rfl, hlt⟩ := plain_addr (by simpa using c0)
      obtain ⟨e0, hr, _⟩ := hq i (by omega)
      rw [plain_add] at e0
      exact ⟨b, off, (q i).1, rfl, Nat.zero_le _, hlt, by simpa using e0, by simpa using hr⟩
    · obtain ⟨j, hj, rfl⟩ := List.mem_map.1 hz
      exact (hq j (by have := List.mem_range.1 hj; omega)).2.2

theorem frame_of {fuel : Nat} {cs : List Value} {x : DataW H × List MemPlace} (h : DataW.trod enc Tryz.prog W 0 (fun _ => true) true fuel 157 cs = some x) : ∃ x y u t l k, cs = [.int .i64 x, .int .i64 y, u, t] ∧ IRow 0 W u l ∧ IRow 0 W t k ∧ FrM.ok ⟨x, y, l, k⟩ := by
  obtain ⟨xs, n, _, _, hlen, hxl, hfd⟩ := DataW.trod_struct Tryz.underlying157 h
  rw [show Tryz.prog.cellsOf 157 = 4 by kernel_rfl] at hlen
  have f0 := hfd 0 _ rfl
  have f1 := hfd 1 _ rfl
  have f2 := hfd 2 _ rfl
  have f3 := hfd 3 _ rfl
  match cs, hlen, xs, hxl with
  | [v0, v1, v2, v3], _, [y0, y1, y2, y3], _ =>
    obtain ⟨x, rfl, hx⟩ := int_of (show DataW.trod enc Tryz.prog W 0 (fun _ => true) true n 2 [v0] = some y0 from f0)
    obtain ⟨y, rfl, hy⟩ := int_of (show DataW.trod enc Tryz.prog W 0 (fun _ => true) true n 2 [v1] = some y1 from f1)
    obtain ⟨l, hl, hlk⟩ := iRow_of (show DataW.trod enc Tryz.prog W 0 (fun _ => true) true n 28 [v2] = some y2 from f2)
    obtain ⟨k, hk, hkk⟩ := iRow_of (show DataW.trod enc Tryz.prog W 0 (fun _ => true) true n 28 [v3] = some y3 from f3)
    exact ⟨x, y, v2, v3, l, k, rfl, hl, hk, hx, hy, hlk, hkk⟩

theorem frRow_of {fuel : Nat} {x : DataW H × List MemPlace} (h : DataW.trod enc Tryz.prog W 0 (fun _ => true) true fuel 37 [v] = some x) : ∃ p, FrRow 0 W v p ∧ ∀ f ∈ p, f.ok := by
  rcases open_slice Tryz.underlying37 h with ⟨hc, _⟩ | ⟨a, len, cap, m, n, D, Pl, hc, _, hl, hm, hmm, _, hx⟩
  · simp only [List.cons.injEq, and_true] at hc
    subst hc
    exact ⟨[], ⟨none, 0, rfl, by simp, fun i hi => absurd hi (Nat.not_lt_zero _)⟩, fun i hi => by simp at hi⟩
  · simp only [List.cons.injEq, and_true] at hc
    subst hc
    simp only [if_true] at hmm
    subst hmm
    have hC : Tryz.prog.cellsOf 157 = 4 := by kernel_rfl
    rw [hC] at hx
    obtain ⟨q, hq⟩ := choose_lt (α := FrM × Value × Value) (p := fun i q => W.cell? (a.add (i * 4)) = some (.int .i64 q.1.func) ∧ W.cell? (a.add (i * 4 + 1)) = some (.int .i64 q.1.pc) ∧ W.cell? (a.add (i * 4 + 2)) = some q.2.1 ∧ W.cell? (a.add (i * 4 + 3)) = some q.2.2 ∧ IRow 0 W q.2.1 q.1.locals ∧ IRow 0 W q.2.2 q.1.stack ∧ q.1.ok) (fun i hi => by
      obtain ⟨cs, h1, h2⟩ := hx i hi
      obtain ⟨x, y, u, t, l, k, rfl, hr, hk, hok⟩ := frame_of h2
      obtain ⟨_, _, hcell⟩ := World.cells?_some h1
      have e0 := hcell 0 (by omega)
      have e1 := hcell 1 (by omega)
      have e2 := hcell 2 (by omega)
      have e3 := hcell 3 (by omega)
      rw [add_add] at e0 e1 e2 e3
      exact ⟨(⟨x, y, l, k⟩, u, t), by simpa using e0, by simpa using e1, by simpa using e2, by simpa using e3, hr, hk, hok⟩)
    refine ⟨(List.range len).map fun i => (q i).1, ⟨some a, m, by simp, by simp; unfold maxLen at hm; omega, fun i hi => ?_⟩, fun i hi => ?_⟩
    · have hi' : i < len := by simpa using hi
      obtain ⟨c0, _⟩ := hq 0 (by omega)
      obtain ⟨b, off, rfl, hlt⟩ := plain_addr (by simpa using c0)
      obtain ⟨e0, e1, e2, e3, hr, hk, _⟩ := hq i (by omega)
      rw [plain_add] at e0 e1 e2 e3
      exact ⟨b, off, (q i).2.1, (q i).2.2, rfl, Nat.zero_le _, hlt, by simpa using e0, by simpa [Nat.add_assoc] using e1, by simpa [Nat.add_assoc] using e2, by simpa [Nat.add_assoc] using e3, by simpa using hr, by simpa using hk⟩
    · obtain ⟨j, hj, rfl⟩ := List.mem_map.1 hi
      exact (hq j (by have := List.mem_range.1 hj; omega)).2.2.2.2.2.2

theorem inState (hv : Value.okWide Tryz.prog W r base 40 v) (h : DataW.Trod enc Tryz.prog W 0 (fun _ => true) true 40 v d p) : IsState W v := by
  obtain ⟨cs, rfl, hsz⟩ := okWide_struct Tryz.underlying40 hv
  rw [show Tryz.prog.cellsOf 40 = 7 by kernel_rfl] at hsz
  obtain ⟨fuel, hf⟩ := h
  obtain ⟨xs, n, _, _, _, hxl, hfd⟩ := DataW.trod_struct Tryz.underlying40 hf
  have f0 := hfd 0 _ rfl
  have f1 := hfd 1 _ rfl
  have f2 := hfd 2 _ rfl
  have f3 := hfd 3 _ rfl
  have f4 := hfd 4 _ rfl
  have f5 := hfd 5 _ rfl
  have f6 := hfd 6 _ rfl
  obtain ⟨l⟩ := cs
  match l, hsz, xs, hxl with
  | [u0, u1, u2, u3, u4, u5, u6], _, [y0, y1, y2, y3, y4, y5, y6], _ =>
    obtain ⟨fr, hfr, ofr⟩ := frRow_of (show DataW.trod enc Tryz.prog W 0 (fun _ => true) true n 37 [u0] = some y0 from f0)
    obtain ⟨hp, hhp, ohp⟩ := arrRow_of (show DataW.trod enc Tryz.prog W 0 (fun _ => true) true n 38 [u1] = some y1 from f1)
    obtain ⟨ot, hot, oot⟩ := iRow_of (show DataW.trod enc Tryz.prog W 0 (fun _ => true) true n 28 [u2] = some y2 from f2)
    obtain ⟨fu, rfl, ofu⟩ := int_of (show DataW.trod enc Tryz.prog W 0 (fun _ => true) true n 2 [u3] = some y3 from f3)
    obtain ⟨bo, hbo, _⟩ := DataW.trod_bool Tryz.underlying4 (show DataW.trod enc Tryz.prog W 0 (fun _ => true) true n 4 [u4] = some y4 from f4)
    obtain ⟨va, rfl, ova⟩ := int_of (show DataW.trod enc Tryz.prog W 0 (fun _ => true) true n 2 [u5] = some y5 from f5)
    obtain ⟨tr, rfl, otr⟩ := int_of (show DataW.trod enc Tryz.prog W 0 (fun _ => true) true n 2 [u6] = some y6 from f6)
    simp only [List.cons.injEq, and_true] at hbo
    subst hbo
    exact ⟨u0, u1, u2, ⟨fr, hp, ot, fu, bo, va, tr⟩, rfl, ⟨hfr, hhp, hot⟩, ofr, ohp, oot, ofu, ova, otr⟩
end
end Go.Proofs.YtnknnncehcofnaaGreatDoor

namespace Go.Proofs.YtnknnncehcofnaaGreatDoor
open Go.RowKit

theorem eqI6 (a b c d : Int) (w : World) : (Op.equalIn 10000 112 (.agg #[.int .i64 a, .int .i64 b]) (.agg #[.int .i64 c, .int .i64 d])).run Tryz.prog w = .ok (a == c && b == d) w := by
  have u3 := Tryz.underlying2
  have a3 := Tryz.isAgg2
  have z3 := Tryz.sizeOf2
  have hS : Tryz.prog.underlying 112 = some (.struct (Tryz.prog.fieldsOf 112)) := by kernel_rfl
  have hp : Tryz.prog.stoodInHeld 112 = false := by kernel_rfl
  rw [show (10000 : Nat) = 9999 + 1 from rfl, run_equalIn_agg w 9999 112 _ _ hS hp]
  simp only [Program.fieldsOf, Tryz.underlying112]
  go_simp
  by_cases h1 : a = c <;> by_cases h2 : b = d <;> simp [h1, h2]

/-- one behind a reached call of that function? -/
def behind (c : List (Int × Int)) (m : List (Option Int)) (pc : Nat) (g : Int) : Bool := decide (0 < pc) && (m.getD (pc - 1) none).isSome && ((c.getD (pc - 1) (0, 0)).1 == 32 && (c.getD (pc - 1) (0, 0)).2 == g)

set_option maxRecDepth 100000 in
set_option maxHeartbeats 1600000 in
theorem implBehindC {B : Nat} (v : Value) (c : List (Int × Int)) (Bm : Nat) (m : List (Option Int)) (pc : Nat) (g : Int) (w : World) (hr : InsRow B w v c) (hM : MapH w Bm m) (hml : m.length = c.length) (hpc : pc < c.length) (hc60 : c.length ≤ 60) :
    Calls Tryz.prog 179 #[v, .map (some Bm), .int .i64 pc, .int .i64 g] w fun e w' => e = .returned (.bool (behind c m pc g)) ∧ w' = w := by
  have Hr : Hid (InsRow B w v c) := hr
  obtain ⟨A, cap, rfl⟩ := hr.form
  obtain ⟨hlook, _⟩ := hM.lookI ((pc : Int) - 1) (by omega)
  clear hr hM
  have heq := eqI6
  obtain ⟨R, HR⟩ : ∃ R, Hid (R = behind c m pc g) := ⟨_, rfl⟩
  rw [← HR.out]
  by_cases h0 : 0 < pc
  · obtain ⟨k, rfl⟩ : ∃ k, pc = k + 1 := ⟨pc - 1, by omega⟩
    rw [show (((k + 1 : Nat) : Int) - 1) = (k : Int) by omega, mAt_nat] at hlook
    cases hm : m.getD k none with
    | none =>
      rw [hm] at hlook
      simp only [Option.getD_none, Option.isSome_none] at hlook
      have HF : Hid (R = false) := by show R = false; rw [HR.out]; unfold behind; rw [Nat.add_sub_cancel, hm]; simp
      clear hm heq
      go_enter Tryz.func179, Tryz.ntmps179
      go_wp2_with fail
      go_ret
      exact ⟨by rw [HF.out]; rfl, rfl⟩
    | some x =>
      rw [hm] at hlook
      simp only [Option.getD_some, Option.isSome_some] at hlook
      obtain ⟨b, off, rfl, hlt, c0, c1⟩ := Hr.out.at k (by omega)
      have hkl : (k : Int) < c.length := by omega
      have HF : Hid (R = (c[k].1 == 32 && c[k].2 == g)) := by show R = _; rw [HR.out]; unfold behind; rw [Nat.add_sub_cancel, hm]; simp [List.getD, show k < c.length by omega]
      clear hm
      go_enter Tryz.func179, Tryz.ntmps179
      go_wp2_with fail
      go_ret
      exact ⟨by rw [HF.out]; rfl, rfl⟩
  · have hp0 : pc = 0 := by omega
    subst hp0
    rw [show (((0 : Nat) : Int) - 1) = -1 by omega, show mAt m (-1) = none by simp [mAt]] at hlook
    simp only [Option.getD_none, Option.isSome_none] at hlook
    have HF : Hid (R = false) := by show R = false; rw [HR.out]; simp [behind]
    clear heq
    go_enter Tryz.func179, Tryz.ntmps179
    go_wp2_with fail
    go_ret
    exact ⟨by rw [HF.out]; rfl, rfl⟩

theorem hs_some {n : Nat} {s : IS} {hs : List Int} (hl : s.m.length = n) (hes : (hsOf n s).h = hs) (hu : HUp s) (j : Nat) (hj : j < n) : (s.m.getD j none).isSome = decide (0 ≤ hs.getD j 0) ∧ ((s.m.getD j none).isSome = true → (s.m.getD j none).getD 0 = hs.getD j 0) := by
  have hg := hsOf_getD hl j hj
  rw [hes] at hg
  cases hm : s.m.getD j none with
  | none => rw [hm] at hg; rw [hg]; simp
  | some x => rw [hm] at hg; rw [hg]; have := hu j x hm; simp; exact this.1

theorem hs_out {n : Nat} {s : IS} (hl : s.m.length = n) (t : Int) (h : ¬ (0 ≤ t ∧ t < n)) : mAt s.m t = none := by
  unfold mAt
  split
  · simp only [List.getD]
    rw [List.getElem?_eq_none (by omega)]
    rfl
  · rfl

/-- standsI, of a function's code and locals -/
def stI (c : List (Int × Int)) (lo : Int) (hs : List Int) (pc : Int) (ll sl : Nat) (next : Option Int) : Bool :=
  decide (0 ≤ pc) && decide (pc < c.length) && decide (0 ≤ hs.getD pc.toNat 0) && decide ((ll : Int) = lo) &&
    (match next with
     | none => decide ((sl : Int) = hs.getD pc.toNat 0)
     | some g => decide (0 < pc) && decide (0 ≤ hs.getD (pc.toNat - 1) 0) && decide (c.getD (pc.toNat - 1) (0, 0) = (32, g)) && decide ((sl : Int) = hs.getD pc.toNat 0 - 1))

theorem frOkI_iff {p : List FnM} {fs : List FrM} {i k : Nat} {f : FrM} {hs : List Int} {c : List (Int × Int)} {lo pc : Int} (h1 : fs[i]? = some f) (h2 : inL f.func p.length = true) (h3 : HsOf p k hs) (hk : f.func = (k : Int)) (hcl : (fnAt p k).code = c ∧ (fnAt p k).locals = lo) (hpc : pc = f.pc) :
    FrOkI p fs i ↔ stI c lo hs pc f.locals.length f.stack.length (nextF fs i) = true := by
  subst hpc
  obtain ⟨rfl, rfl⟩ := hcl
  have e : standsI p hs f (nextF fs i) = stI (fnAt p k).code (fnAt p k).locals hs f.pc f.locals.length f.stack.length (nextF fs i) := by unfold standsI stI; rw [hk]; cases nextF fs i <;> rfl
  rw [← e]
  constructor
  · rintro ⟨g, g1, g2, hs', g3, g4⟩
    rw [h1] at g1
    cases g1
    rw [hk, Int.toNat_natCast] at g3
    have := g3.unique h3
    simp only [Sum.inl.injEq] at this
    subst this
    exact g4
  · intro h
    exact ⟨f, h1, h2, hs, by rw [hk, Int.toNat_natCast]; exact h3, h⟩

set_option maxRecDepth 100000 in
set_option maxHeartbeats 3200000 in
theorem implFrame {B : Nat} (vp v : Value) (p : List FnM) (fs : List FrM) (i : Nat) (w : World) (ht : Tab w) (hr : FnRow 0 w vp p) (hf : FrRow B w v fs) (hright : RightP p) (hi : i < fs.length) (hok : ∀ f ∈ fs, f.ok) :
    Calls Tryz.prog 120 #[.agg #[vp], v, .int .i64 i] w fun e w' => ∃ b : Bool, e = .returned (.bool b) ∧ Below w.heap.size w w' ∧ (b = true ↔ FrOkI p fs i) := by
  have Hr : Hid (FnRow 0 w vp p) := hr
  have Hf : Hid (FrRow B w v fs) := hf
  have Ht : Hid (Tab w) := ht
  have HR : Hid (RightP p) := hright
  have hlen := hr.len
  have hlfs := hf.len
  obtain ⟨A, cap, rfl⟩ := hr.form
  obtain ⟨D, dap, rfl⟩ := hf.form
  have hfok : fs[i].ok := hok _ (List.getElem_mem hi)
  obtain ⟨f, hfe⟩ : ∃ f, f = fs[i] := ⟨_, rfl⟩
  obtain ⟨bF, oF, x, y, rfl, hltF, f0, f1, f2, f3, hx, hy⟩ := hf.at i hi
  rw [← hfe] at f0 f1 hx hy hfok
  have hfi : fs[i]? = some f := by rw [List.getElem?_eq_getElem hi, hfe]
  have Hfi : Hid (fs[i]? = some f) := hfi
  obtain ⟨okf, okp, -, -⟩ := hfok
  unfold I64 at okf okp
  have hxl := hx.len
  have hyl := hy.len
  obtain ⟨Ax, cx, rfl⟩ := hx.form
  obtain ⟨Ay, cy, rfl⟩ := hy.form
  clear hr hf ht hfe hok hx hy hfi
  have hil : (i : Int) < fs.length := by omega
  by_cases hin : inL f.func p.length = true
  case neg =>
    have hin' : inL f.func p.length = false := by simpa using hin
    have HF : Hid (¬ FrOkI p fs i) := by
      rintro ⟨g, h1, h2, _⟩
      rw [Hfi.out] at h1
      cases h1
      exact hin h2
    have Hal : Hid (∀ o o' : Obj, Below w.heap.size w ((w.alloc o).alloc o')) := fun o o' => ((Below.refl _ _).alloc (Nat.le_refl _) _).alloc (by simp) _
    go_enter Tryz.func120, Tryz.ntmps120
    go_wp2_with fail
    refine (inList f.func p.length _ hlen).mono ?_
    rintro e w1 ⟨rfl, hw1⟩
    subst w1
    rw [hin']
    go_wp2_with fail
    go_ret
    exact ⟨false, rfl, Hal.out _ _, by simpa using HF.out⟩
  have hin2 := inL_iff.1 hin
  obtain ⟨k, hk'⟩ := Int.eq_ofNat_of_zero_le hin2.1
  have hk : k < p.length := by omega
  have Hin : Hid (inL f.func p.length = true) := hin
  have Hk' : Hid (f.func = (k : Int)) := hk'
  have hinL : inL (k : Int) p.length = true := by rw [← hk']; exact hin
  rw [hk'] at f0
  obtain ⟨pc, hpc⟩ : ∃ pc, pc = f.pc := ⟨_, rfl⟩
  have Hpc : Hid (pc = f.pc) := hpc
  rw [← hpc] at f1 okp
  obtain ⟨hs, hrun, hl1, hl2, _, hrange, _⟩ := hright.heights k hk
  have hfn := fnAt_nat p k hk
  obtain ⟨hfo, hall, _⟩ := ((hright.all).2.2 k hk).well rfl
  have hform : 1 ≤ (fnAt p k).code.length ∧ (fnAt p k).code.length ≤ 60 := by simp [formOk] at hfo; omega
  have hargs : ArgsUp p := fun g hg => by have := hright.args g hg; omega
  obtain ⟨c, hc⟩ : ∃ c, c = p[k].code := ⟨_, rfl⟩
  have hcf : (fnAt p k).code = c := by rw [hfn, hc]
  obtain ⟨lo, hlo⟩ : ∃ lo, lo = p[k].locals := ⟨_, rfl⟩
  have hlf : (fnAt p k).locals = lo := by rw [hfn, hlo]
  have HsOk : Hid (HsOf p k hs) := hrun
  rw [hcf] at hrun hl1 hall hform
  have Hcf : Hid ((fnAt p k).code = c ∧ (fnAt p k).locals = lo) := ⟨hcf, hlf⟩
  have Hrun : Hid (HRun p c (startH c.length) (.inl hs)) := hrun
  have Hargs : Hid (ArgsUp p) := hargs
  have Hcp : Hid (c = p[k].code ∧ lo = p[k].locals) := ⟨hc, hlo⟩
  obtain ⟨wa, hwa⟩ : ∃ wa, wa = (w.alloc (.cells #[.slice A p.length cap] 25)).alloc (.cells #[.int .i64 k, .int .i64 pc, .slice Ax f.locals.length cx, .slice Ay f.stack.length cy] 110) := ⟨_, rfl⟩
  obtain ⟨t0, t1, t2⟩ := boxes_new w #[.slice A p.length cap] #[.int .i64 k, .int .i64 pc, .slice Ax f.locals.length cx, .slice Ay f.stack.length cy] 25 110
  rw [← hwa] at t0 t1 t2
  have T0 : Hid (Box wa w.heap.size #[.slice A p.length cap]) := t0
  have T1 : Hid (Box wa (w.heap.size + 1) #[.int .i64 k, .int .i64 pc, .slice Ax f.locals.length cx, .slice Ay f.stack.length cy]) := t1
  have T2 : Hid (Below w.heap.size w wa) := t2
  obtain ⟨bp, op, xp, rfl, hltp, e0, e1, e2, hxp⟩ := (Hr.out.below t2).at k hk
  obtain ⟨Ac, capc, rfl⟩ := hxp.form
  have HIns : Hid (InsRow 0 wa (.slice Ac p[k].code.length capc) p[k].code) := hxp
  rw [← hlo] at e1
  rw [← hc] at e2 HIns
  clear hxp
  obtain ⟨ar, har⟩ : ∃ ar, ar = p[k].args := ⟨_, rfl⟩
  rw [← har] at e0
  have q0 := t0.at0
  have q1 := t1.at0
  have z1 := t1.1
  have z0 := t0.1
  have hfi := implFind (.slice (some ⟨bp, op, none⟩) p.length cap) p k (wa.alloc (.cells #[.int .i64 ar, .int .i64 lo, .slice Ac c.length capc] 72)) (Ht.out.below (t2.alloc t2.size _)) (Hr.out.below (t2.alloc t2.size _)) hk (by rw [← hc]; exact hform.1) (by rw [← hc]; exact hform.2) (by rw [← hc]; exact goesTo_range (p := p) (f := k) hcf.symm hall)
  rw [← hc] at hfi
  obtain ⟨wf, hwf⟩ : ∃ wf, wf = wa.alloc (.cells #[.int .i64 ar, .int .i64 lo, .slice Ac c.length capc] 72) := ⟨_, rfl⟩
  rw [← hwf] at hfi
  have Hfn : Hid (Calls Tryz.prog 162 #[.agg #[.slice (some ⟨bp, op, none⟩) p.length cap], .int .i64 k] wf fun e w' => FoundIs p c wf w' e) := hfi
  have HBf : Hid (Box wf wa.heap.size #[.int .i64 ar, .int .i64 lo, .slice Ac c.length capc]) := by rw [hwf]; exact box_new wa _ 72
  have Hal : Hid (Below wa.heap.size wa wf) := by rw [hwf]; exact (Below.refl _ _).alloc (Nat.le_refl _) _
  clear t0 t1 t2 hright hfn hfo hall hcf hrun hfi hargs hc hlo hlf har hpc hk' hin hin2
  go_enter Tryz.func120, Tryz.ntmps120
  go_wp2_with fail
  rw [← hwa]
  refine (inList (k : Int) p.length _ hlen).mono ?_
  rintro e w1 ⟨rfl, hw1⟩
  subst w1
  clear hwa
  rw [hinL]
  go_wp2_with fail
  rw [← hwf]
  clear hwf
  refine Calls.mono (R := fun e w' => FoundIs p c wf w' e) Hfn.out ?_
  rintro e w2 ⟨Bm, at', code, rfl, hb2, hcase⟩
  have Hb2a : Hid (Below wa.heap.size wa w2) := Hal.out.trans (hb2.mono Hal.out.size)
  have Hb2 : Hid (Below w.heap.size w w2) := T2.out.trans (Hb2a.out.mono T2.out.size)
  have T0' : Hid (Box w2 w.heap.size #[.slice (some ⟨bp, op, none⟩) p.length cap]) := T0.out.below Hb2a.out
  have T1' : Hid (Box w2 (w.heap.size + 1) #[.int .i64 k, .int .i64 pc, .slice Ax f.locals.length cx, .slice Ay f.stack.length cy]) := T1.out.below Hb2a.out
  have HBf' : Hid (Box w2 wa.heap.size #[.int .i64 ar, .int .i64 lo, .slice Ac c.length capc]) := HBf.out.below hb2
  have HIns2 : Hid (InsRow 0 w2 (.slice Ac c.length capc) c) := HIns.out.below Hb2a.out
  have Hfs2 : Hid (FrRow B w2 (.slice (some ⟨bF, oF, none⟩) fs.length dap) fs) := Hf.out.below Hb2.out
  rcases hcase with ⟨rfl, s, hsok, hM, hru⟩ | ⟨_, a, _, hru⟩
  case inr => exact absurd ((hru Hargs.out).unique Hrun.out) (by simp)
  have hes : (hsOf c.length s).h = hs := by
    have := ((hru Hargs.out).1).unique Hrun.out
    simpa using this
  have hup := (hru Hargs.out).2
  have hml := hsok.len
  have HM : Hid (MapH w2 Bm s.m) := hM
  obtain ⟨hlook, _⟩ := hM.lookI pc okp
  clear hb2 hru hM T0 T1 HBf HIns Hfn hsok q0 q1 z0 z1 e0 e1 e2 f0 f1 f2 f3
  obtain ⟨g0, g1, g2, g3⟩ : w2.cell? ⟨w.heap.size + 1, 0, none⟩ = some (.int .i64 k) ∧ w2.cell? ⟨w.heap.size + 1, 1, none⟩ = some (.int .i64 pc) ∧ w2.cell? ⟨w.heap.size + 1, 2, none⟩ = some (.slice Ax f.locals.length cx) ∧ w2.cell? ⟨w.heap.size + 1, 3, none⟩ = some (.slice Ay f.stack.length cy) := ⟨T1'.out.2 0, T1'.out.2 1, T1'.out.2 2, T1'.out.2 3⟩
  obtain ⟨u0, u1, u2⟩ : w2.cell? ⟨wa.heap.size, 0, none⟩ = some (.int .i64 ar) ∧ w2.cell? ⟨wa.heap.size, 1, none⟩ = some (.int .i64 lo) ∧ w2.cell? ⟨wa.heap.size, 2, none⟩ = some (.slice Ac c.length capc) := ⟨HBf'.out.2 0, HBf'.out.2 1, HBf'.out.2 2⟩
  have z1 := T1'.out.1
  have z2 := HBf'.out.1
  have HI : Hid (FrOkI p fs i ↔ stI c lo hs pc f.locals.length f.stack.length (nextF fs i) = true) := frOkI_iff Hfi.out Hin.out HsOk.out Hk'.out Hcf.out Hpc.out
  by_cases hpr : 0 ≤ pc ∧ pc < c.length
  case neg =>
    rw [hs_out hml pc hpr] at hlook
    simp only [Option.getD_none, Option.isSome_none] at hlook
    have HF : Hid (¬ FrOkI p fs i) := by
      show ¬ FrOkI p fs i
      rw [HI.out]
      unfold stI
      simp only [Bool.and_eq_true, decide_eq_true_eq]
      omega
    clear hpr
    go_wp2_with fail
    go_ret
    exact ⟨false, rfl, Hb2.out, by simpa using HF.out⟩
  obtain ⟨j, rfl⟩ := Int.eq_ofNat_of_zero_le hpr.1
  have hj : j < c.length := by omega
  rw [mAt_nat] at hlook
  obtain ⟨hsj, hgj⟩ := hs_some hml hes hup j hj
  have HI2 : Hid (stI c lo hs (j : Int) f.locals.length f.stack.length (nextF fs i) = (decide (0 ≤ hs.getD j 0) && decide ((f.locals.length : Int) = lo) && (match nextF fs i with | none => decide ((f.stack.length : Int) = hs.getD j 0) | some g => decide (0 < j) && decide (0 ≤ hs.getD (j - 1) 0) && decide (c.getD (j - 1) (0, 0) = (32, g)) && decide ((f.stack.length : Int) = hs.getD j 0 - 1)))) := by
    show stI _ _ _ _ _ _ _ = _
    unfold stI
    rw [Int.toNat_natCast, decide_eq_true (show 0 ≤ (j : Int) by omega), decide_eq_true (show (j : Int) < c.length by omega)]
    cases nextF fs i with
    | none => simp
    | some g => simp
  have hnx : nextF fs i = if h : i + 1 < fs.length then some fs[i + 1].func else none := by
    unfold nextF
    by_cases h : i + 1 < fs.length
    · rw [List.getElem?_eq_getElem h, dif_pos h]; rfl
    · rw [List.getElem?_eq_none (by omega), dif_neg h]; rfl
  cases hm : s.m.getD j none with
  | none =>
    rw [hm] at hlook hsj
    simp only [Option.getD_none, Option.isSome_none] at hlook hsj
    have HF : Hid (¬ FrOkI p fs i) := by show ¬ FrOkI p fs i; rw [HI.out, HI2.out, ← hsj]; simp
    clear hsj hgj hm hnx hes hpr
    go_wp2_with fail
    go_ret
    exact ⟨false, rfl, Hb2.out, by simpa using HF.out⟩
  | some h =>
    have hh : h = hs.getD j 0 := by rw [hm] at hgj; exact hgj rfl
    rw [hm] at hlook hsj
    simp only [Option.getD_some, Option.isSome_some] at hlook hsj
    rw [← hsj, ← hh, Bool.true_and] at HI2
    have hhb : 0 ≤ h ∧ h ≤ 8 := hup j h hm
    have Hes : Hid ((hsOf c.length s).h = hs ∧ HUp s) := ⟨hes, hup⟩
    clear hsj hgj hm hes hup hh hpr
    by_cases hll : (f.locals.length : Int) = lo
    case neg =>
      have HF : Hid (¬ FrOkI p fs i) := by show ¬ FrOkI p fs i; rw [HI.out, HI2.out]; simp [hll]
      have hll' : ((f.locals.length : Int) != lo) = true := by simpa using hll
      clear hnx
      go_wp2_with fail
      go_ret
      exact ⟨false, rfl, Hb2.out, by simpa using HF.out⟩
    have hll' : ((f.locals.length : Int) != lo) = false := by simpa using hll
    rw [decide_eq_true hll, Bool.true_and] at HI2
    clear hll
    by_cases hlast : i + 1 < fs.length
    case neg =>
      rw [dif_neg hlast] at hnx
      rw [hnx] at HI HI2
      have hl' : decide ((i : Int) < (fs.length : Int) - 1) = false := by simp; omega
      clear hnx
      go_wp2_with fail
      go_ret
      exact ⟨_, rfl, Hb2.out, by rw [HI.out, HI2.out]; simp⟩
    rw [dif_pos hlast] at hnx
    rw [hnx] at HI HI2
    have hl' : (i : Int) < (fs.length : Int) - 1 := by omega
    obtain ⟨g, hg⟩ : ∃ g, g = fs[i + 1].func := ⟨_, rfl⟩
    rw [← hg] at HI HI2
    obtain ⟨bF', oF', x', y', hA', -, n0, -⟩ := Hfs2.out.at (i + 1) hlast
    simp only [Option.some.injEq, Addr.mk.injEq, and_true] at hA'
    obtain ⟨rfl, rfl⟩ := hA'
    rw [← hg] at n0
    have hltF2 : bF < w2.heap.size := Nat.lt_of_lt_of_le hltF Hb2.out.size
    have hl2 : (i : Int) + 1 < fs.length := by omega
    clear hnx hg
    have hbeh : behind c s.m j g = (decide (0 < j) && decide (0 ≤ hs.getD (j - 1) 0) && decide (c.getD (j - 1) (0, 0) = (32, g))) := by
      unfold behind
      rw [(hs_some hml Hes.out.1 Hes.out.2 (j - 1) (by omega)).1]
      congr 1
      generalize c.getD (j - 1) (0, 0) = q
      obtain ⟨q1, q2⟩ := q
      by_cases h1 : q1 = 32 <;> by_cases h2 : q2 = g <;> simp [h1, h2]
    obtain ⟨bb, hbb⟩ : ∃ bb, bb = behind c s.m j g := ⟨_, rfl⟩
    have HI3 : Hid (stI c lo hs (j : Int) f.locals.length f.stack.length (some g) = (bb && decide ((f.stack.length : Int) = h - 1))) := by rw [hbb, hbeh]; exact HI2.out
    clear HI2
    have hbc := fun W => implBehindC (B := 0) (.slice Ac c.length capc) c Bm s.m j g W
    rw [← hbb] at hbc
    have Hbc : Hid (∀ W, InsRow 0 W (.slice Ac c.length capc) c → MapH W Bm s.m → s.m.length = c.length → j < c.length → c.length ≤ 60 → Calls Tryz.prog 179 #[.slice Ac c.length capc, .map (some Bm), .int .i64 j, .int .i64 g] W fun e w' => e = .returned (.bool bb) ∧ w' = W) := hbc
    clear hbeh hbb hbc
    go_upto_region 10 with fail
    go_quiet ((go_at_call 179; exact Calls.quiet_of_same (Hbc.out _ (HIns2.out.below (below_drewN (Below.refl _ _) _)) (HM.out.below (below_drewN (Below.refl _ _) _)) hml hj hform.2)))
    cases bb with
    | false =>
      go_wp2_with fail
      go_ret
      exact ⟨false, rfl, below_drewN Hb2.out _, by rw [HI.out, HI3.out]; simp⟩
    | true =>
      go_wp2_with fail
      go_ret
      exact ⟨_, rfl, below_drewN Hb2.out _, by rw [HI.out, HI3.out]; simp⟩
end Go.Proofs.YtnknnncehcofnaaGreatDoor
