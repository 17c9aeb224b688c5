/- spec.l04Least: the least place that waits. spec.l04Heights: what stands in memory, and what going on comes to place by place. impl.verifyFunc. -/
import Derived.Test.YtnknnncehcofnaaGreatDoorJ6RightW
import Derived.Test.YtnknnncehcofnaaGreatDoorJ0Prg
import Derived.Deep.LoopGhost
import Derived.Deep.CutRange
import Derived.Laws.OwnMore
import Derived.BigRegion
import Derived.Test.YtnknnncehcofnaaGreatDoorFindW
namespace Go.Proofs.YtnknnncehcofnaaGreatDoor
open Go.RowKit

theorem specLeast (b n cap : Nat) (wt : List Bool) (w : World) (hv : VRow w b (truths wt)) (hl : wt.length = n) (hn : n ≤ 1048576) :
    Calls Tryz.prog 167 #[.slice (some ⟨b, 0, none⟩) n cap] w fun e w' => w' = w ∧ ((e = .returned (.int .i64 (-1)) ∧ ∀ j, wt.getD j false = false) ∨ ∃ k : Nat, e = .returned (.int .i64 k) ∧ IsLeast wt k) := by
  subst hl
  go_enter Tryz.func167, Tryz.ntmps167
  have Hv : Hid (VRow w b (truths wt)) := hv
  clear hv
  go_wp2
  go_loopw [3] (fun i wr => ∃ k : Nat, k ≤ wt.length ∧ i = .int .i64 k ∧ wr = w ∧ ∀ j, j < k → wt.getD j false = false) (fun i _ => wt.length - (intOf i).toNat)
  case atStart => exact ⟨0, Nat.zero_le _, rfl, rfl, fun j h => by omega⟩
  case round =>
    obtain ⟨k, hk, rfl, hw, hb⟩ := hrel
    subst hw
    have Hb : Hid (∀ j, j < k → wt.getD j false = false) := hb
    clear hb
    by_cases hkl : k < wt.length
    · obtain ⟨c0, _⟩ := Hv.out.truth k hkl
      obtain ⟨x, Hx⟩ : ∃ x, Hid (wt.getD k false = x) := ⟨_, rfl⟩
      rw [Hx.out] at c0
      cases x
      · go_wp2_with fail
        go_roundw
        case rel => exact ⟨k + 1, by omega, by go_num, trivial, fun j hj => if e : j = k then by subst e; exact Hx.out else Hb.out j (by omega)⟩
        case measure => simp [intOf]; omega
      · go_wp2_with fail
        go_ret
        exact ⟨rfl, .inr ⟨k, rfl, hkl, Hx.out, Hb.out⟩⟩
    · go_wp2_with fail
      go_ret
      refine ⟨rfl, .inl ⟨rfl, fun j => ?_⟩⟩
      by_cases hj : j < wt.length
      · exact Hb.out j (by omega)
      · simp [List.getD, hj]
end Go.Proofs.YtnknnncehcofnaaGreatDoor

namespace Go.Proofs.YtnknnncehcofnaaGreatDoor
open Go.RowKit

/-- what stands in memory as heights are found: the program's box, the answer's cell, the heights, what waits -/
structure SpH (w wr : World) (prg : Value) (s : HS) : Prop where
  box : Box wr w.heap.size #[prg]
  res : VRow wr (w.heap.size + 1) (ints [0, 0, 0])
  hh : VRow wr (w.heap.size + 1 + 1) (ints s.h)
  ww : VRow wr (w.heap.size + 1 + 1 + 1) (truths s.wt)
  bel : Below w.heap.size w wr

theorem SpH.below {w wr w1 : World} {prg : Value} {s : HS} (h : SpH w wr prg s) (hb : Below wr.heap.size wr w1) : SpH w w1 prg s :=
  ⟨h.box.below hb, h.res.below hb, h.hh.below hb, h.ww.below hb, h.bel.trans (hb.mono h.bel.size)⟩

theorem SpH.setH {w wr : World} {prg : Value} {s : HS} (h : SpH w wr prg s) (k : Nat) (x : Int) (hk : k < s.h.length) : SpH w (wr.setCell ⟨w.heap.size + 1 + 1, k, none⟩ (.int .i64 x)) prg ⟨s.h.set k x, s.wt⟩ :=
  ⟨h.box.set_far _ _ (by show w.heap.size + 1 + 1 ≠ w.heap.size; omega), h.res.set_far _ _ (by show w.heap.size + 1 + 1 ≠ w.heap.size + 1; omega), by have := h.hh.set_at k (.int .i64 x) (by simpa [ints] using hk); rwa [ints_set] at this, h.ww.set_far _ _ (by show w.heap.size + 1 + 1 ≠ w.heap.size + 1 + 1 + 1; omega), h.bel.setCell (by show w.heap.size ≤ w.heap.size + 1 + 1; omega) _⟩

theorem SpH.setW {w wr : World} {prg : Value} {s : HS} (h : SpH w wr prg s) (k : Nat) (x : Bool) (hk : k < s.wt.length) : SpH w (wr.setCell ⟨w.heap.size + 1 + 1 + 1, k, none⟩ (.bool x)) prg ⟨s.h, s.wt.set k x⟩ :=
  ⟨h.box.set_far _ _ (by show w.heap.size + 1 + 1 + 1 ≠ w.heap.size; omega), h.res.set_far _ _ (by show w.heap.size + 1 + 1 + 1 ≠ w.heap.size + 1; omega), h.hh.set_far _ _ (by show w.heap.size + 1 + 1 + 1 ≠ w.heap.size + 1 + 1; omega), by have := h.ww.set_at k (.bool x) (by simpa [truths] using hk); rwa [truths_set] at this, h.bel.setCell (by show w.heap.size ≤ w.heap.size + 1 + 1 + 1; omega) _⟩

theorem Tryz.infoB : (Tryz.prog.info? 4).map (fun i => (i.zero, i.size, i.bytes)) = some (some (.bool false), 1, 1) := by kernel_rfl

theorem ints_replicate (n : Nat) (x : Int) : ints (List.replicate n x) = List.replicate n (.int .i64 x) := by simp [ints]
theorem truths_replicate (n : Nat) (x : Bool) : truths (List.replicate n x) = List.replicate n (.bool x) := by simp [truths]

theorem all_minus {zs : List Int} (h : ∀ j, j < zs.length → zs.getD j 0 = -1) : zs = List.replicate zs.length (-1) := by
  apply List.ext_getElem
  · simp
  · intro j h1 h2
    have := h j h1
    simp [List.getD, h1] at this
    simp [this]

theorem three_new (w : World) (C D E : Array Value) (t u s : TypeId) : Box (((w.alloc (.cells C t)).alloc (.cells D u)).alloc (.cells E s)) w.heap.size C ∧ VRow (((w.alloc (.cells C t)).alloc (.cells D u)).alloc (.cells E s)) (w.heap.size + 1) D.toList ∧
    VRow (((w.alloc (.cells C t)).alloc (.cells D u)).alloc (.cells E s)) (w.heap.size + 1 + 1) E.toList ∧ Below w.heap.size w (((w.alloc (.cells C t)).alloc (.cells D u)).alloc (.cells E s)) ∧ (((w.alloc (.cells C t)).alloc (.cells D u)).alloc (.cells E s)).heap.size = w.heap.size + 1 + 1 + 1 := by
  obtain ⟨x0, _, x2⟩ := boxes_new w C D t u
  have h1 : (w.alloc (.cells C t)).heap.size = w.heap.size + 1 := by simp
  have h2 : ((w.alloc (.cells C t)).alloc (.cells D u)).heap.size = w.heap.size + 1 + 1 := by simp
  have y1 := vrow_new (w.alloc (.cells C t)) D u
  have y2 := vrow_new ((w.alloc (.cells C t)).alloc (.cells D u)) E s
  rw [h1] at y1
  rw [h2] at y2
  have hb : Below ((w.alloc (.cells C t)).alloc (.cells D u)).heap.size ((w.alloc (.cells C t)).alloc (.cells D u)) (((w.alloc (.cells C t)).alloc (.cells D u)).alloc (.cells E s)) := (Below.refl _ _).alloc (Nat.le_refl _) _
  exact ⟨x0.below hb, y1.below hb, y2, x2.trans (hb.mono x2.size), by simp⟩

/-- what l04Heights tells -/
def HTold (p : List FnM) (c : List (Int × Int)) (f : Nat) (w w' : World) (e : Ending) : Prop :=
  ∃ b cap F A C, e = .returned (.tuple #[.slice (some ⟨b, 0, none⟩) c.length cap, .agg #[.int .i64 F, .int .i64 A, .int .i64 C]]) ∧ w.heap.size ≤ b ∧ Below w.heap.size w w' ∧
    ((F = 0 ∧ A = 0 ∧ C = 0 ∧ ∃ hs, HRun p c (startH c.length) (.inl hs) ∧ VRow w' b (ints hs) ∧ hs.length = c.length) ∨ (F = f ∧ ∃ a : Nat, A = a ∧ HRun p c (startH c.length) (.inr (a, C))))

theorem VRow.upTo {w w' : World} {b B : Nat} {vs : List Value} (h : VRow w b vs) (hb : Below B w w') (hB : b < B) : VRow w' b vs :=
  ⟨Nat.lt_of_lt_of_le h.1 hb.size, fun j hj => by rw [hb.cell (by exact hB), hb.frozen (by exact hB)]; exact h.2 j hj⟩

theorem VRow.put3 {w : World} {b : Nat} {x y z : Value} (h : VRow w b [x, y, z]) (x' y' z' : Value) : VRow (((w.setCell ⟨b, 0, none⟩ x').setCell ⟨b, 1, none⟩ y').setCell ⟨b, 2, none⟩ z') b [x', y', z'] :=
  ((h.set_at 0 x' (by simp)).set_at 1 y' (by simp)).set_at 2 z' (by simp)
theorem VRow.at0 {w : World} {b : Nat} {x : Value} {l : List Value} (h : VRow w b (x :: l)) : w.cell? ⟨b, 0, none⟩ = some x := (h.2 0 (by simp)).1
theorem VRow.at1 {w : World} {b : Nat} {x y : Value} {l : List Value} (h : VRow w b (x :: y :: l)) : w.cell? ⟨b, 1, none⟩ = some y := (h.2 1 (by simp)).1
theorem VRow.at2 {w : World} {b : Nat} {x y z : Value} {l : List Value} (h : VRow w b (x :: y :: z :: l)) : w.cell? ⟨b, 2, none⟩ = some z := (h.2 2 (by simp)).1
theorem VRow.far3 {w : World} {b g : Nat} {vs : List Value} (h : VRow w b vs) (x y z : Value) (hg : g ≠ b) : VRow (((w.setCell ⟨g, 0, none⟩ x).setCell ⟨g, 1, none⟩ y).setCell ⟨g, 2, none⟩ z) b vs := ((h.set_far _ _ hg).set_far _ _ hg).set_far _ _ hg
theorem below_put3 {B : Nat} {w0 w : World} {g : Nat} (h : Below B w0 w) (x y z : Value) (hg : B ≤ g) : Below B w0 (((w.setCell ⟨g, 0, none⟩ x).setCell ⟨g, 1, none⟩ y).setCell ⟨g, 2, none⟩ z) := ((h.setCell hg _).setCell hg _).setCell hg _

/-- .. and in a turn: the instruction at hand, the fault that would be told -/
structure SpR (w wr : World) (prg : Value) (s : HS) (M : Nat) (op a : Int) (bad : List Int) : Prop where
  sp : SpH w wr prg s
  hM : w.heap.size + 1 + 1 + 1 < M
  ins : Box wr M #[.int .i64 op, .int .i64 a]
  bad : VRow wr (M + 1) (ints bad)

theorem SpR.below {w wr w1 : World} {prg : Value} {s : HS} {M : Nat} {op a : Int} {bad : List Int} (h : SpR w wr prg s M op a bad) (hb : Below wr.heap.size wr w1) : SpR w w1 prg s M op a bad :=
  ⟨h.sp.below hb, h.hM, h.ins.below hb, h.bad.below hb⟩

theorem SpR.upTo {w wr w1 : World} {prg : Value} {s : HS} {M : Nat} {op a : Int} {bad : List Int} (h : SpR w wr prg s M op a bad) (hb : Below (M + 1 + 1) wr w1) : SpR w w1 prg s M op a bad :=
  have hz := h.hM
  ⟨⟨⟨Nat.lt_of_lt_of_le h.sp.box.1 hb.size, fun j => by rw [hb.cell (by show w.heap.size < M + 1 + 1; omega)]; exact h.sp.box.2 j⟩, h.sp.res.upTo hb (by omega), h.sp.hh.upTo hb (by omega), h.sp.ww.upTo hb (by omega), h.sp.bel.trans (hb.mono (by omega))⟩, h.hM,
    ⟨Nat.lt_of_lt_of_le h.ins.1 hb.size, fun j => by rw [hb.cell (by show M < M + 1 + 1; omega)]; exact h.ins.2 j⟩, h.bad.upTo hb (by omega)⟩

theorem SpR.grown {w wr w1 : World} {prg : Value} {s : HS} {M : Nat} {op a : Int} {bad : List Int} {row : Option Nat} (h : SpR w wr prg s M op a bad) (hg : wr.grownBy w1 row) (hr : ∀ j, row = some j → M + 1 + 1 ≤ j) : SpR w w1 prg s M op a bad :=
  h.upTo ((Below.refl _ _).grown hg h.bad.1 hr)

theorem SpR.setH {w wr : World} {prg : Value} {s : HS} {M : Nat} {op a : Int} {bad : List Int} (h : SpR w wr prg s M op a bad) (k : Nat) (x : Int) (hk : k < s.h.length) : SpR w (wr.setCell ⟨w.heap.size + 1 + 1, k, none⟩ (.int .i64 x)) prg ⟨s.h.set k x, s.wt⟩ M op a bad :=
  ⟨h.sp.setH k x hk, h.hM, h.ins.set_far _ _ (by have := h.hM; show w.heap.size + 1 + 1 ≠ M; omega), h.bad.set_far _ _ (by have := h.hM; show w.heap.size + 1 + 1 ≠ M + 1; omega)⟩

theorem SpR.setW {w wr : World} {prg : Value} {s : HS} {M : Nat} {op a : Int} {bad : List Int} (h : SpR w wr prg s M op a bad) (k : Nat) (x : Bool) (hk : k < s.wt.length) : SpR w (wr.setCell ⟨w.heap.size + 1 + 1 + 1, k, none⟩ (.bool x)) prg ⟨s.h, s.wt.set k x⟩ M op a bad :=
  ⟨h.sp.setW k x hk, h.hM, h.ins.set_far _ _ (by have := h.hM; show w.heap.size + 1 + 1 + 1 ≠ M; omega), h.bad.set_far _ _ (by have := h.hM; show w.heap.size + 1 + 1 + 1 ≠ M + 1; omega)⟩

theorem SpR.setBad {w wr : World} {prg : Value} {s : HS} {M : Nat} {op a x y : Int} (h : SpR w wr prg s M op a [x, y, 5]) : SpR w (wr.setCell ⟨M + 1, 2, none⟩ (.int .i64 6)) prg s M op a [x, y, 6] :=
  have hz := h.hM
  ⟨⟨h.sp.box.set_far _ _ (by show M + 1 ≠ w.heap.size; omega), h.sp.res.set_far _ _ (by show M + 1 ≠ w.heap.size + 1; omega), h.sp.hh.set_far _ _ (by show M + 1 ≠ w.heap.size + 1 + 1; omega), h.sp.ww.set_far _ _ (by show M + 1 ≠ w.heap.size + 1 + 1 + 1; omega), h.sp.bel.setCell (by show w.heap.size ≤ M + 1; omega) _⟩, hz,
    h.ins.set_far _ _ (by show M + 1 ≠ M; omega), by have := h.bad.set_at 2 (.int .i64 6) (by simp [ints]); rwa [ints_set] at this⟩

theorem leaves_eq (p : List FnM) (h op a : Int) : IntKind.i64.wrap (IntKind.i64.wrap (h - takesM p op a) + (opRow op).2.2.2) = leaves p h (op, a) := by simp only [IntKind.wrap_i64, leaves, wrap64, putsM]

theorem goesTo_eq (k : Nat) (op a : Int) : goesTo k (op, a) = (if op = 30 ∨ op = 33 then [] else [(k : Int) + 1]) ++ (if op = 30 ∨ op = 31 then [a] else []) := rfl

theorem goOn_cons (next t : Int) (ts : List Int) (s : HS) : goOn next (t :: ts) s = if (s.h.length : Int) ≤ t then .inr 6
    else if 0 ≤ s.h.getD t.toNat 0 ∧ s.h.getD t.toNat 0 ≠ next then .inr 5
    else if s.h.getD t.toNat 0 < 0 then goOn next ts ⟨s.h.set t.toNat next, s.wt.set t.toNat true⟩
    else goOn next ts s := rfl

theorem goOn_snoc {next : Int} (t : Int) : ∀ (l : List Int) (s : HS), goOn next (l ++ [t]) s = (match goOn next l s with | .inl s' => goOn next [t] s' | .inr c => .inr c)
  | [], s => rfl
  | x :: l, s => by
    rw [List.cons_append, goOn_cons next x (l ++ [t]), goOn_cons next x l]
    by_cases h1 : (s.h.length : Int) ≤ x
    · rw [if_pos h1, if_pos h1]
    · rw [if_neg h1, if_neg h1]
      by_cases h2 : 0 ≤ s.h.getD x.toNat 0 ∧ s.h.getD x.toNat 0 ≠ next
      · rw [if_pos h2, if_pos h2]
      · rw [if_neg h2, if_neg h2]
        by_cases h3 : s.h.getD x.toNat 0 < 0
        · rw [if_pos h3, if_pos h3]; exact goOn_snoc t l _
        · rw [if_neg h3, if_neg h3]; exact goOn_snoc t l _

theorem goOn_fault {next : Int} {c : Int} (l' : List Int) : ∀ (l : List Int) (s : HS), goOn next l s = .inr c → goOn next (l ++ l') s = .inr c
  | [], s, h => by cases h
  | x :: l, s, h => by
    rw [List.cons_append, goOn_cons next x (l ++ l')]
    rw [goOn_cons next x l] at h
    by_cases h1 : (s.h.length : Int) ≤ x
    · rw [if_pos h1] at h ⊢; exact h
    · rw [if_neg h1] at h ⊢
      by_cases h2 : 0 ≤ s.h.getD x.toNat 0 ∧ s.h.getD x.toNat 0 ≠ next
      · rw [if_pos h2] at h ⊢; exact h
      · rw [if_neg h2] at h ⊢
        by_cases h3 : s.h.getD x.toNat 0 < 0
        · rw [if_pos h3] at h ⊢; exact goOn_fault l' l _ h
        · rw [if_neg h3] at h ⊢; exact goOn_fault l' l _ h

theorem goOn_take {next : Int} {ts : List Int} {s s2 : HS} {q : Nat} (hq : q < ts.length) (h : goOn next (ts.take q) s = .inl s2) : goOn next (ts.take (q + 1)) s = goOn next [ts[q]] s2 := by
  rw [List.take_succ_eq_append_getElem hq, goOn_snoc, h]

theorem goOn_take_fault {next : Int} {ts : List Int} {s s2 : HS} {q : Nat} {c : Int} (hq : q < ts.length) (h : goOn next (ts.take q) s = .inl s2) (hf : goOn next [ts[q]] s2 = .inr c) : goOn next ts s = .inr c := by
  rw [← List.take_append_drop (q + 1) ts]
  exact goOn_fault _ _ _ (by rw [goOn_take hq h, hf])

theorem start_hok {n : Nat} (h1 : 1 ≤ n) : HOk n (startH n) := by
  refine ⟨by simp [startH], by simp [startH], fun j hj hw => ?_⟩
  have hw' : ((List.replicate n false).set 0 true).getD j false = true := hw
  show HV (((List.replicate n (-1 : Int)).set 0 0).getD j 0)
  rw [getD_set _ _ _ _ _ (by rw [List.length_replicate]; omega)] at hw' ⊢
  split
  · exact .inl (by omega)
  · rename_i hne
    rw [if_neg hne] at hw'
    simp [List.getD, List.getElem?_replicate] at hw'
    split at hw' <;> simp at hw'

end Go.Proofs.YtnknnncehcofnaaGreatDoor

namespace Go.Proofs.YtnknnncehcofnaaGreatDoor
open Go.RowKit

/-- what verifyFunc tells of function f -/
def FuncTold (p : List FnM) (f : Nat) (w w' : World) (e : Ending) : Prop :=
  ∃ F A C : Int, e = .returned (.agg #[.int .i64 F, .int .i64 A, .int .i64 C]) ∧ Below w.heap.size w w' ∧ (C = 0 → formOk (fnAt p f) = true ∧ F = 0 ∧ A = 0) ∧ (C ≠ 0 → F = f) ∧ (ArgsUp p → FuncIs p f A C)

theorem insAt_get (c : List (Int × Int)) (k : Nat) (h : k < c.length) : insAt c k = c[k] := by simp [insAt, List.getD, h]

set_option maxRecDepth 100000 in
set_option maxHeartbeats 3200000 in
theorem implFunc (v : Value) (p : List FnM) (f : Nat) (w : World) (ht : Tab w) (hr : FnRow 0 w v p) (hf : f < p.length) :
    Calls Tryz.prog 154 #[.agg #[v], .int .i64 f] w fun e w' => FuncTold p f w w' e := by
  have Hr : Hid (FnRow 0 w v p) := hr
  have Ht : Hid (Tab w) := ht
  have hlen := hr.len
  obtain ⟨A, cap, rfl⟩ := hr.form
  obtain ⟨b0, off0, x, rfl, hlt0, e0, e1, e2, hx⟩ := hr.at f hf
  have hfn : fnAt p f = p[f] := fnAt_nat p f hf
  have Hfn : Hid (fnAt p f = p[f]) := hfn
  have Hx : Hid (InsRow 0 w x p[f].code) := hx
  obtain ⟨Ac, capc, rfl⟩ := hx.form
  have hcl : p[f].code.length ≤ 9223372036854775807 := by obtain ⟨_, _, _, h, _⟩ := hx; exact h
  clear hr ht hx hfn
  obtain ⟨x0, x1, x2⟩ := boxes_new w #[.slice (some ⟨b0, off0, none⟩) p.length cap] #[.int .i64 0, .int .i64 0, .int .i64 0] 25 133
  have y1 := vrow_new (w.alloc (.cells #[.slice (some ⟨b0, off0, none⟩) p.length cap] 25)) #[.int .i64 0, .int .i64 0, .int .i64 0] 133
  rw [show (w.alloc (.cells #[.slice (some ⟨b0, off0, none⟩) p.length cap] 25)).heap.size = w.heap.size + 1 by simp] at y1
  have X0 : Hid (Box _ _ _) := x0
  have X1 : Hid (VRow _ (w.heap.size + 1) (ints [0, 0, 0])) := y1
  have X2 : Hid (Below _ _ _) := x2
  clear x0 x1 x2 y1
  go_enter Tryz.func154, Tryz.ntmps154
  go_wp2_with fail
  refine (implSizes _ _ _ p[f].code _ (Hx.out.below X2.out)).mono ?_
  rintro e w1 ⟨rfl, hb1⟩
  have Hb1 : Hid (Below w.heap.size w w1) := X2.out.trans (hb1.mono X2.out.size)
  have HB : Hid (Box w1 w.heap.size #[.slice (some ⟨b0, off0, none⟩) p.length cap]) := X0.out.below hb1
  have HV : Hid (VRow w1 (w.heap.size + 1) (ints [0, 0, 0])) := X1.out.below hb1
  clear hb1 X0 X1 X2
  by_cases hform : formOk p[f] = true
  · have hform' : formOk ⟨p[f].args, p[f].locals, p[f].code⟩ = true := hform
    rw [hform']
    have hn1 : 1 ≤ p[f].code.length ∧ p[f].code.length ≤ 60 := by simp [formOk] at hform; omega
    have Hform : Hid (formOk (fnAt p f) = true) := by rw [Hfn.out]; exact hform
    clear hform hform'
    have c0 := HB.out.at0
    have cz := HB.out.1
    obtain ⟨e0', e1', e2'⟩ : w1.cell? ⟨b0, off0 + f * 3, none⟩ = some (.int .i64 p[f].args) ∧ w1.cell? ⟨b0, off0 + f * 3 + 1, none⟩ = some (.int .i64 p[f].locals) ∧ w1.cell? ⟨b0, off0 + f * 3 + 2, none⟩ = some (.slice Ac p[f].code.length capc) :=
      ⟨by rw [Hb1.out.cell (by exact hlt0)]; exact e0, by rw [Hb1.out.cell (by exact hlt0)]; exact e1, by rw [Hb1.out.cell (by exact hlt0)]; exact e2⟩
    clear e0 e1 e2
    obtain ⟨c, hc⟩ : ∃ c, c = p[f].code := ⟨_, rfl⟩
    have Hc : Hid (c = (fnAt p f).code) := by rw [Hfn.out]; exact hc
    rw [← hc] at e2' Hx hn1 hcl ⊢
    have Hcf : Hid (c = p[f].code) := hc
    clear hc
    go_wp2_with fail
    clear c0 cz e0' e1' e2'
    go_loopg [26] (c.length) (fun g i wr => ∃ k : Nat, k ≤ c.length ∧ i = .int .i64 k ∧ c.length ≤ k + g ∧ Box wr w.heap.size #[.slice (some ⟨b0, off0, none⟩) p.length cap] ∧ VRow wr (w.heap.size + 1) (ints [0, 0, 0]) ∧ Below w.heap.size w wr ∧ ∀ j, j < k → rightM p f (insAt c j).1 (insAt c j).2 = true)
    case atStart => exact ⟨0, Nat.zero_le _, rfl, by omega, HB.out, HV.out, Hb1.out, fun j h => by omega⟩
    case round =>
      clear HB HV Hb1
      obtain ⟨k, hk, rfl, hkg, hB, hV, hb, hall⟩ := hrel
      have HB : Hid (Box wr w.heap.size #[.slice (some ⟨b0, off0, none⟩) p.length cap]) := hB
      have HV : Hid (VRow wr (w.heap.size + 1) (ints [0, 0, 0])) := hV
      have Hb : Hid (Below w.heap.size w wr) := hb
      have Hall : Hid (∀ j, j < k → rightM p f (insAt c j).1 (insAt c j).2 = true) := hall
      have c0 := hB.at0
      have cz := hB.1
      clear hB hV hb hall
      by_cases hkl : k < c.length
      · obtain ⟨bc, offc, rfl, hltc, d0, d1⟩ := (Hx.out.below Hb.out).at k hkl
        obtain ⟨op, a, hop⟩ : ∃ op a, insAt c k = (op, a) := ⟨_, _, rfl⟩
        have hcK : c[k] = (op, a) := by rw [← hop, insAt_get c k hkl]
        rw [hcK] at d0 d1
        have Hop : Hid (insAt c k = (op, a)) := hop
        clear hop hcK
        go_wp2_with fail
        have hal : Below wr.heap.size wr (wr.alloc (.cells #[.int .i64 op, .int .i64 a] 112)) := (Below.refl _ _).alloc (Nat.le_refl _) _
        have hal2 := Hb.out.trans (hal.mono Hb.out.size)
        refine (implRight _ p f op a _ (Ht.out.below hal2) (Hr.out.below hal2)).mono ?_
        rintro e w2 ⟨rfl, hb2⟩
        have hb2' := hal.trans (hb2.mono hal.size)
        have HB2 : Hid (Box w2 w.heap.size #[.slice (some ⟨b0, off0, none⟩) p.length cap]) := HB.out.below hb2'
        have HV2 : Hid (VRow w2 (w.heap.size + 1) (ints [0, 0, 0])) := HV.out.below hb2'
        have Hb2 : Hid (Below w.heap.size w w2) := Hb.out.trans (hb2'.mono Hb.out.size)
        clear hal hal2 hb2 hb2' d0 d1 c0 cz HB HV
        by_cases hrt : rightM p f op a = true
        · rw [hrt]
          have Hrt : Hid (rightM p f (insAt c k).1 (insAt c k).2 = true) := by rw [Hop.out]; exact hrt
          clear hrt
          go_wp2_with fail
          go_roundg (gk - 1)
          case measure => omega
          case rel => exact ⟨k + 1, by omega, by go_num, by omega, HB2.out, HV2.out, Hb2.out, fun j hj => if e : j = k then by subst e; exact Hrt.out else Hall.out j (by omega)⟩
        · have hrt' : rightM p f op a = false := by simpa using hrt
          rw [hrt']
          have HF : Hid (FuncIs p f k 1) := by
            have := FuncIs.ins (p := p) (f := f) k Hform.out (by rw [← Hc.out]; exact hkl) (by rw [← Hc.out, Hop.out]; exact hrt') (fun j hj => by rw [← Hc.out]; exact Hall.out j hj)
            exact this
          clear hrt hrt'
          obtain ⟨r0, q0⟩ := HV2.out.int 0 (by simp)
          obtain ⟨r1, q1⟩ := HV2.out.int 1 (by simp)
          obtain ⟨r2, q2⟩ := HV2.out.int 2 (by simp)
          have rz := HV2.out.1
          simp at r0 r1 r2
          go_wp2_with fail
          have HZ : Hid (VRow (((w2.setCell ⟨w.heap.size + 1, 0, none⟩ (.int .i64 f)).setCell ⟨w.heap.size + 1, 1, none⟩ (.int .i64 k)).setCell ⟨w.heap.size + 1, 2, none⟩ (.int .i64 1)) (w.heap.size + 1) (ints [f, k, 1])) := HV2.out.put3 _ _ _
          exact bodyPost_ret (v := .agg #[.int .i64 f, .int .i64 k, .int .i64 1]) (by simp [results, Tryz.results154, go_sem, HZ.out.at0, HZ.out.at1, HZ.out.at2]) rfl
            ⟨f, k, 1, rfl, below_put3 Hb2.out _ _ _ (by omega), fun h => by omega, fun _ => rfl, fun _ => HF.out⟩
      · have HA : Hid (∀ j, j < c.length → rightM p f (insAt c j).1 (insAt c j).2 = true) := fun j hj => Hall.out j (by omega)
        have hfi := implFind (.slice (some ⟨b0, off0, none⟩) p.length cap) p f wr (Ht.out.below Hb.out) (Hr.out.below Hb.out) hf (by rw [← Hcf.out]; exact hn1.1) (by rw [← Hcf.out]; exact hn1.2)
          (by rw [← Hcf.out]; exact goesTo_range (p := p) (f := f) Hc.out HA.out)
        rw [← Hcf.out] at hfi
        have Hfi : Hid (Calls Tryz.prog 162 #[.agg #[.slice (some ⟨b0, off0, none⟩) p.length cap], .int .i64 f] wr fun e w' => FoundIs p c wr w' e) := hfi
        clear hfi
        go_wp2_with fail
        refine Calls.mono (R := fun e w' => FoundIs p c wr w' e) Hfi.out ?_
        rintro e w2 ⟨Bm, at', code, rfl, hb2, hcase⟩
        have HV2 : Hid (VRow w2 (w.heap.size + 1) (ints [0, 0, 0])) := HV.out.below hb2
        have Hb2 : Hid (Below w.heap.size w w2) := Hb.out.trans (hb2.mono Hb.out.size)
        clear hb2 c0 cz HB HV
        obtain ⟨r0, q0⟩ := HV2.out.int 0 (by simp)
        obtain ⟨r1, q1⟩ := HV2.out.int 1 (by simp)
        obtain ⟨r2, q2⟩ := HV2.out.int 2 (by simp)
        have rz := HV2.out.1
        simp at r0 r1 r2
        rcases hcase with ⟨rfl, s, _, _, hrun⟩ | ⟨hne, a, rfl, hrun⟩
        · have HF : Hid (ArgsUp p → FuncIs p f 0 0) := fun hp => FuncIs.ok _ Hform.out (by rw [← Hc.out]; exact HA.out) (by rw [← Hc.out]; exact (hrun hp).1)
          clear hrun
          go_wp2_with fail
          have HZ : Hid (VRow (((w2.setCell ⟨w.heap.size + 1, 0, none⟩ (.int .i64 0)).setCell ⟨w.heap.size + 1, 1, none⟩ (.int .i64 0)).setCell ⟨w.heap.size + 1, 2, none⟩ (.int .i64 0)) (w.heap.size + 1) (ints [0, 0, 0])) := HV2.out.put3 _ _ _
          exact bodyPost_ret (v := .agg #[.int .i64 0, .int .i64 0, .int .i64 0]) (by simp [results, Tryz.results154, go_sem, HZ.out.at0, HZ.out.at1, HZ.out.at2]) rfl
            ⟨0, 0, 0, rfl, below_put3 Hb2.out _ _ _ (by omega), fun _ => ⟨Hform.out, rfl, rfl⟩, fun h => absurd rfl h, HF.out⟩
        · have HF : Hid (ArgsUp p → FuncIs p f a code) := fun hp => FuncIs.fault a code Hform.out (by rw [← Hc.out]; exact HA.out) (by rw [← Hc.out]; exact hrun hp)
          have hne' : (code != 0) = true := by simpa using hne
          clear hrun
          go_wp2_with fail
          have HZ : Hid (VRow (((w2.setCell ⟨w.heap.size + 1, 0, none⟩ (.int .i64 f)).setCell ⟨w.heap.size + 1, 1, none⟩ (.int .i64 a)).setCell ⟨w.heap.size + 1, 2, none⟩ (.int .i64 code)) (w.heap.size + 1) (ints [f, a, code])) := HV2.out.put3 _ _ _
          exact bodyPost_ret (v := .agg #[.int .i64 f, .int .i64 a, .int .i64 code]) (by simp [results, Tryz.results154, go_sem, HZ.out.at0, HZ.out.at1, HZ.out.at2]) rfl
            ⟨f, a, code, rfl, below_put3 Hb2.out _ _ _ (by omega), fun h => absurd h hne, fun _ => rfl, HF.out⟩
  · have hform' : formOk ⟨p[f].args, p[f].locals, p[f].code⟩ = false := by simpa using hform
    rw [hform']
    have HF : Hid (FuncIs p f 0 1) := FuncIs.form (by rw [Hfn.out]; exact hform')
    clear hform hform'
    obtain ⟨r0, q0⟩ := HV.out.int 0 (by simp)
    obtain ⟨r1, q1⟩ := HV.out.int 1 (by simp)
    obtain ⟨r2, q2⟩ := HV.out.int 2 (by simp)
    have rz := HV.out.1
    simp at r0 r1 r2
    go_wp2_with fail
    have HZ : Hid (VRow (((w1.setCell ⟨w.heap.size + 1, 0, none⟩ (.int .i64 f)).setCell ⟨w.heap.size + 1, 1, none⟩ (.int .i64 0)).setCell ⟨w.heap.size + 1, 2, none⟩ (.int .i64 1)) (w.heap.size + 1) (ints [f, 0, 1])) := HV.out.put3 _ _ _
    exact bodyPost_ret (v := .agg #[.int .i64 f, .int .i64 0, .int .i64 1]) (by simp [results, Tryz.results154, go_sem, HZ.out.at0, HZ.out.at1, HZ.out.at2]) rfl
      ⟨f, 0, 1, rfl, below_put3 Hb1.out _ _ _ (by omega), fun h => by omega, fun _ => rfl, fun _ => HF.out⟩
end Go.Proofs.YtnknnncehcofnaaGreatDoor
