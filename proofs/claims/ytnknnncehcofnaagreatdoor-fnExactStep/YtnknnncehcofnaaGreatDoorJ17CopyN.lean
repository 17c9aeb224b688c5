/- Numbers copied into a row of the call's own: spec.l06Nums, slices.Clone; impl.copyFrame, copyHeap. impl.copyFrame, copyHeap. -/
import Derived.Test.YtnknnncehcofnaaGreatDoorStMarkS
import Derived.Test.YtnknnncehcofnaaGreatDoorJ16LayW
namespace Go.Proofs.YtnknnncehcofnaaGreatDoor
open Go.RowKit

/-- all of a row's room is its owner's -/
theorem Room.of_owns {own : Nat → Nat → Tag} {B n : Nat} {w : World} {v : Value} {xs : List Value} {t : Tag} (h : w.ownsRow B 2 1 v n xs) (ho : ∀ g, v.ownBlock = some g → ∀ j, own g j = t) : Room own B w v 1 t := by
  obtain ⟨h1, h2⟩ := h
  rcases h2 with ⟨rfl, h0⟩ | ⟨g, cap, cur, rfl, hb, hh, hn', hm, hs, ht⟩
  · exact ⟨none, 0, 0, rfl, Nat.le_refl _, fun j hj => by omega⟩
  · refine ⟨_, n, cap, rfl, hn', fun j hj => ⟨g, 0, rfl, hb, (Array.getElem?_eq_some_iff.1 hh).1, ?_, ?_, ho g rfl _⟩⟩
    · have : j < cur.size := by omega
      simp [World.cell?, hh, this]
    · simp [World.frozen?, hh]

/-- nothing appended -/
theorem run_append_empty (W : World) (g n c cap : Nat) (A : Option Addr) (ty : TypeId) (hc : n ≤ c) :
    (Builtin.append_ #[28, 28] ty #[.slice (some ⟨g, 0, none⟩) n c, .slice A 0 cap]).run Tryz.prog W = .ok (.slice (some ⟨g, 0, none⟩) n c) W := by
  obtain ⟨i0, hi, hz0, hz1, hz2⟩ := info_parts Tryz.info64
  have hl : ∀ (x : Addr), (loadCells x 0).run Tryz.prog W = .ok #[] W := fun x => by simpa using run_loadCells_list (P := Tryz.prog) W x [] (by simp)
  cases A <;> simp [Builtin.append_, run_underlying Tryz.underlying28, Builtin.lenOf, Builtin.firstCells, sizeOf, typeInfo, hi, hz1, hc, storeCells, hl]

theorem wpList_append_empty {w : World} {ops : Array Oper} {rest : List Oper} {o : Oper} {a : Act} {Q : Exit → Act → World → Prop} (hgd : o.guard = none) (sl x : Operand)
    (ho : o.op = .call { callee := .builtin .append, args := #[sl, x], argTypes := #[28, 28] })
    (g n c cap : Nat) (A : Option Addr) (hs : a.eval sl = .slice (some ⟨g, 0, none⟩) n c) (hx : a.eval x = .slice A 0 cap) (hc : n ≤ c)
    (h : wpList Tryz.prog ops Q rest (a.put o.dst (.slice (some ⟨g, 0, none⟩) n c)) w) : wpList Tryz.prog ops Q (o :: rest) a w := by
  have hr := run_append_empty w g n c cap A o.type hc
  refine wpList_plain hgd fun K hK => ?_
  unfold Oper.wp execOp
  simp only [ho, resolve, invoke, builtin, Sem.run_bind, Sem.run_pure, Result.andThen_ok, List.map_toArray, List.map_cons, List.map_nil, hs, hx, hr]
  exact hK _ _ h

def NumsTold (l : List Int) (w w' : World) (e : Ending) : Prop := ∃ v', e = .returned v' ∧ w'.ownsRow w.heap.size 2 1 v' l.length (ints l) ∧ Below w.heap.size w w'

set_option maxRecDepth 100000 in
set_option maxHeartbeats 800000 in
theorem specNums {B : Nat} (v : Value) (l : List Int) (w : World) (hv : IRow B w v l) (hl : l.length ≤ 1048576) :
    Calls Tryz.prog 104 #[v] w fun e w' => NumsTold l w w' e := by
  obtain ⟨i0, hi, hz0, hz1, hz2⟩ := info_parts Tryz.info64
  have Hv : Hid (IRow B w v l) := hv
  obtain ⟨A, cap, rfl⟩ := hv.form
  have hal : Below w.heap.size w (w.alloc (.cells #[] 2)) := (Below.refl _ _).alloc (Nat.le_refl _) _
  have ho := World.ownsRow_lit (base := w.heap.size) (e := 2) (size := 1) w #[] 0 (Nat.le_refl _) (Nat.zero_le _) rfl
  clear hv
  by_cases h0 : l.length = 0
  · have hn : l = [] := List.length_eq_zero_iff.1 h0
    subst hn
    have HO : Hid ((w.alloc (.cells #[] 2)).ownsRow w.heap.size 2 1 (.slice (some ⟨w.heap.size, 0, none⟩) 0 0) 0 (ints [])) := ho
    have Hal : Hid (Below w.heap.size w (w.alloc (.cells #[] 2))) := hal
    clear ho hal
    go_enter Tryz.func104, Tryz.ntmps104
    go_wp2_with (at_builtin; refine wpList_append_empty rfl _ _ rfl _ 0 0 cap A rfl rfl (Nat.le_refl _) ?_)
    go_wp2_with fail
    go_ret
    exact ⟨_, rfl, HO.out, Hal.out⟩
  · obtain ⟨b, off, rfl, _, hlt, _⟩ := Hv.out.at 0 (by omega)
    have Hc : Hid (∀ j u, (ints l)[j]? = some u → (w.alloc (.cells #[] 2)).cell? ((⟨b, off, none⟩ : Addr).add j) = some u) := fun j u hu => by
      have hj : j < l.length := by have := (List.getElem?_eq_some_iff.1 hu).1; rwa [ints_length] at this
      obtain ⟨b', off', e, _, _, h3⟩ := (Hv.out.below hal).at j hj
      simp only [Option.some.injEq, Addr.mk.injEq, and_true] at e
      obtain ⟨rfl, rfl⟩ := e
      rw [Addr.add_lit, h3, ← hu]
      simp [ints, hj]
    have HO : Hid ((w.alloc (.cells #[] 2)).ownsRow w.heap.size 2 1 (.slice (some ⟨w.heap.size, 0, none⟩) 0 0) 0 []) := ho
    have Hal : Hid (Below w.heap.size w (w.alloc (.cells #[] 2))) := hal
    clear ho hal
    go_enter Tryz.func104, Tryz.ntmps104
    go_wp2_with (at_builtin; refine wpList_append_own _ rfl _ _ 28 rfl w.heap.size 2 i0 (.int .i64 0) 1 8 Tryz.underlying28 hi hz0 hz1 hz2 rfl (by decide) _ _ _ rfl HO.out ⟨b, off, none⟩ l.length cap (ints l) rfl (by rw [ints_length]; omega) Hc.out ?c2 ?c3 ?c4 ?c5 ?_)
    case c2 => intro u hu; simp [ints] at hu; obtain ⟨a, _, rfl⟩ := hu; rfl
    case c3 => unfold maxLen; omega
    case c4 => omega
    case c5 => simp
    intro v' w1 hown hg _
    have H1 : Hid (w1.ownsRow w.heap.size 2 1 v' l.length (ints l)) := by show w1.ownsRow _ _ _ _ _ _; simpa using hown
    have Hb1 : Hid (Below w.heap.size w w1) := Hal.out.grown hg (by have := Hal.out.size; exact this) (fun k hk => by simp [Value.ownBlock] at hk; omega)
    clear hown hg
    go_wp2_with fail
    go_ret
    exact ⟨_, rfl, H1.out, Hb1.out⟩
set_option maxRecDepth 100000 in
set_option maxHeartbeats 800000 in
theorem cloneNums {B : Nat} (v : Value) (l : List Int) (w : World) (hv : IRow B w v l) (hl : l.length ≤ 1048576) :
    Calls Tryz.prog 118 #[v] w fun e w' => NumsTold l w w' e := by
  obtain ⟨i0, hi, hz0, hz1, hz2⟩ := info_parts Tryz.info64
  have Hv : Hid (IRow B w v l) := hv
  obtain ⟨A, cap, rfl⟩ := hv.form
  have hal : Below w.heap.size w (w.alloc (.cells #[] 2)) := (Below.refl _ _).alloc (Nat.le_refl _) _
  have ho := World.ownsRow_lit (base := w.heap.size) (e := 2) (size := 1) w #[] 0 (Nat.le_refl _) (Nat.zero_le _) rfl
  clear hv
  by_cases h0 : l.length = 0
  · have hn : l = [] := List.length_eq_zero_iff.1 h0
    subst hn
    have HO : Hid ((w.alloc (.cells #[] 2)).ownsRow w.heap.size 2 1 (.slice (some ⟨w.heap.size, 0, none⟩) 0 0) 0 (ints [])) := ho
    have Hal : Hid (Below w.heap.size w (w.alloc (.cells #[] 2))) := hal
    clear ho hal
    cases A with
    | none =>
      have hq : (binOp .eql 28 (.slice none 0 cap) (.slice none 0 0)).run Tryz.prog w = .ok (.bool true) w := run_eql_slice_nil w 28 2 none 0 cap Tryz.underlying28
      go_enter Tryz.func118, Tryz.ntmps118
      go_wp2_with fail
      go_ret
      exact ⟨_, rfl, ⟨by simp [ints], .inl ⟨rfl, rfl⟩⟩, Below.refl _ _⟩
    | some ad =>
      have hq : (binOp .eql 28 (.slice (some ad) 0 cap) (.slice none 0 0)).run Tryz.prog w = .ok (.bool false) w := run_eql_slice_nil w 28 2 (some ad) 0 cap Tryz.underlying28
      go_enter Tryz.func118, Tryz.ntmps118
      go_wp2_with (at_builtin; refine wpList_append_empty rfl _ _ rfl _ 0 0 cap (some ad) rfl rfl (Nat.le_refl _) ?_)
      go_wp2_with fail
      go_ret
      exact ⟨_, rfl, HO.out, Hal.out⟩
  · obtain ⟨b, off, rfl, _, hlt, _⟩ := Hv.out.at 0 (by omega)
    have Hc : Hid (∀ j u, (ints l)[j]? = some u → (w.alloc (.cells #[] 2)).cell? ((⟨b, off, none⟩ : Addr).add j) = some u) := fun j u hu => by
      have hj : j < l.length := by have := (List.getElem?_eq_some_iff.1 hu).1; rwa [ints_length] at this
      obtain ⟨b', off', e, _, _, h3⟩ := (Hv.out.below hal).at j hj
      simp only [Option.some.injEq, Addr.mk.injEq, and_true] at e
      obtain ⟨rfl, rfl⟩ := e
      rw [Addr.add_lit, h3, ← hu]
      simp [ints, hj]
    have HO : Hid ((w.alloc (.cells #[] 2)).ownsRow w.heap.size 2 1 (.slice (some ⟨w.heap.size, 0, none⟩) 0 0) 0 []) := ho
    have Hal : Hid (Below w.heap.size w (w.alloc (.cells #[] 2))) := hal
    have hq : (binOp .eql 28 (.slice (some ⟨b, off, none⟩) l.length cap) (.slice none 0 0)).run Tryz.prog w = .ok (.bool false) w := run_eql_slice_nil w 28 2 (some ⟨b, off, none⟩) l.length cap Tryz.underlying28
    clear ho hal
    go_enter Tryz.func118, Tryz.ntmps118
    go_wp2_with (at_builtin; refine wpList_append_own _ rfl _ _ 28 rfl w.heap.size 2 i0 (.int .i64 0) 1 8 Tryz.underlying28 hi hz0 hz1 hz2 rfl (by decide) _ _ _ rfl HO.out ⟨b, off, none⟩ l.length cap (ints l) rfl (by rw [ints_length]; omega) Hc.out ?c2 ?c3 ?c4 ?c5 ?_)
    case c2 => intro u hu; simp [ints] at hu; obtain ⟨a, _, rfl⟩ := hu; rfl
    case c3 => unfold maxLen; omega
    case c4 => omega
    case c5 => simp
    intro v' w1 hown hg _
    have H1 : Hid (w1.ownsRow w.heap.size 2 1 v' l.length (ints l)) := by show w1.ownsRow _ _ _ _ _ _; simpa using hown
    have Hb1 : Hid (Below w.heap.size w w1) := Hal.out.grown hg (by have := Hal.out.size; exact this) (fun k hk => by simp [Value.ownBlock] at hk; omega)
    clear hown hg
    go_wp2_with fail
    go_ret
    exact ⟨_, rfl, H1.out, Hb1.out⟩
end Go.Proofs.YtnknnncehcofnaaGreatDoor

namespace Go.Proofs.YtnknnncehcofnaaGreatDoor
open Go.RowKit

theorem Room.ext {own own' : Nat → Nat → Tag} {B size : Nat} {w : World} {v : Value} {t : Tag} (h : Room own B w v size t) (ho : ∀ b j, B ≤ b → b < w.heap.size → own' b j = own b j) : Room own' B w v size t := by
  obtain ⟨A, n, cap, rfl, hn, hr⟩ := h
  refine ⟨A, n, cap, rfl, hn, fun j hj => ?_⟩
  obtain ⟨b, off, h1, h2, h3, h4, h5, h6⟩ := hr j hj
  exact ⟨b, off, h1, h2, h3, h4, h5, by rw [ho b _ h2 h3]; exact h6⟩

theorem Room.lower {own : Nat → Nat → Tag} {B B' size : Nat} {w : World} {v : Value} {t : Tag} (h : Room own B w v size t) (hB : B' ≤ B) : Room own B' w v size t := by
  obtain ⟨A, n, cap, rfl, hn, hr⟩ := h
  refine ⟨A, n, cap, rfl, hn, fun j hj => ?_⟩
  obtain ⟨b, off, h1, h2, h3⟩ := hr j hj
  exact ⟨b, off, h1, Nat.le_trans hB h2, h3⟩

/-- .. where a cell of a block ahead of B is written -/
theorem Room.setLow {own : Nat → Nat → Tag} {B size : Nat} {w : World} {v : Value} {t : Tag} (h : Room own B w v size t) {q : Addr} (hq : q.block < B) (u : Value) : Room own B (w.setCell q u) v size t := by
  obtain ⟨A, n, cap, rfl, hn, hr⟩ := h
  refine ⟨A, n, cap, rfl, hn, fun j hj => ?_⟩
  obtain ⟨b, off, h1, h2, h3, h4, h5, h6⟩ := hr j hj
  exact ⟨b, off, h1, h2, by simpa using h3, by rw [World.cell?_setCell_other _ _ _ _ (by intro e; rw [e] at hq; exact absurd h2 (Nat.not_le_of_lt hq))]; exact h4, by simpa using h5, h6⟩

def CopyFTold (f : FrM) (w w' : World) (e : Ending) : Prop := ∃ g, e = .returned (.agg #[.int .i64 f.func, .int .i64 f.pc, .slice (some ⟨g, 0, none⟩) f.locals.length f.locals.length, .slice (some ⟨g, f.locals.length, none⟩) f.stack.length (max 8 f.stack.length)]) ∧ w.heap.size ≤ g ∧ VRow w' g (ints (layRow f.locals.length f.locals f.stack)) ∧ Below w.heap.size w w'

set_option maxRecDepth 100000 in
set_option maxHeartbeats 1600000 in
theorem implCopyF {B : Nat} (f : FrM) (v u : Value) (w : World) (hv : IRow B w v f.locals) (hu : IRow B w u f.stack) (hl : f.locals.length ≤ 1048576) (hs : f.stack.length ≤ 1048576) :
    Calls Tryz.prog 116 #[.agg #[.int .i64 f.func, .int .i64 f.pc, v, u]] w fun e w' => CopyFTold f w w' e := by
  obtain ⟨A, a, rfl⟩ := hv.form
  obtain ⟨D, d, rfl⟩ := hu.form
  obtain ⟨t0, t1, t2⟩ := boxes_new w #[.int .i64 f.func, .int .i64 f.pc, .slice A f.locals.length a, .slice D f.stack.length d] #[.int .i64 0, .int .i64 0, .slice none 0 0, .slice none 0 0] 110 110
  obtain ⟨wa, hwa⟩ : ∃ wa, wa = (w.alloc (.cells #[.int .i64 f.func, .int .i64 f.pc, .slice A f.locals.length a, .slice D f.stack.length d] 110)).alloc (.cells #[.int .i64 0, .int .i64 0, .slice none 0 0, .slice none 0 0] 110) := ⟨_, rfl⟩
  have y1 : VRow wa (w.heap.size + 1) [.int .i64 0, .int .i64 0, .slice none 0 0, .slice none 0 0] := by
    have := vrow_new (w.alloc (.cells #[.int .i64 f.func, .int .i64 f.pc, .slice A f.locals.length a, .slice D f.stack.length d] 110)) #[.int .i64 0, .int .i64 0, .slice none 0 0, .slice none 0 0] 110
    rw [hwa]; simpa using this
  rw [← hwa] at t2
  have hL := implLay f.func f.pc f.locals.length (.slice A f.locals.length a) (.slice D f.stack.length d) f.locals f.stack wa (hv.below t2) (hu.below t2) (Nat.le_refl _) hl hs
  have HL : Hid (Calls Tryz.prog 175 #[.int .i64 f.func, .int .i64 f.pc, .int .i64 f.locals.length, .slice A f.locals.length a, .slice D f.stack.length d] wa fun e w' => CopyFTold f wa w' e) := hL
  have Y1 : Hid (VRow wa (w.heap.size + 1) [.int .i64 0, .int .i64 0, .slice none 0 0, .slice none 0 0]) := y1
  have T2 : Hid (Below w.heap.size w wa) := t2
  clear hv hu t0 t1 t2 y1 hL
  go_enter Tryz.func116, Tryz.ntmps116
  go_wp2_with fail
  rw [← hwa]
  clear hwa
  refine Calls.mono (R := fun e w' => CopyFTold f wa w' e) HL.out ?_
  rintro e w1 ⟨g, rfl, hg, hV, hb1⟩
  have Y2 := Y1.out.below hb1
  have HV : Hid (VRow w1 g (ints (layRow f.locals.length f.locals f.stack))) := hV
  have Hb1 : Hid (Below w.heap.size w w1) := T2.out.trans (hb1.mono T2.out.size)
  have hgg : w.heap.size + 1 < g := Nat.lt_of_lt_of_le Y1.out.1 hg
  obtain ⟨p0, q0⟩ := Y2.2 0 (by simp)
  obtain ⟨p1, q1⟩ := Y2.2 1 (by simp)
  obtain ⟨p2, q2⟩ := Y2.2 2 (by simp)
  obtain ⟨p3, q3⟩ := Y2.2 3 (by simp)
  have z0 := Y2.1
  simp at p0 p1 p2 p3
  obtain ⟨mx, hmx⟩ : ∃ mx, mx = max 8 f.stack.length := ⟨_, rfl⟩
  rw [← hmx]
  have Hmx : Hid (mx = max 8 f.stack.length) := hmx
  clear hV hb1 Y2 HL hmx
  go_wp2_with fail
  refine bodyPost_ret (v := .agg #[.int .i64 f.func, .int .i64 f.pc, .slice (some ⟨g, 0, none⟩) f.locals.length f.locals.length, .slice (some ⟨g, f.locals.length, none⟩) f.stack.length mx]) (by simp [results, Tryz.results116, go_sem, p0, p1, p2, p3]) rfl ⟨g, by rw [Hmx.out], by omega, ?_, ?_⟩
  · exact (((HV.out.set_far _ _ (by show w.heap.size + 1 ≠ g; omega)).set_far _ _ (by show w.heap.size + 1 ≠ g; omega)).set_far _ _ (by show w.heap.size + 1 ≠ g; omega)).set_far _ _ (by show w.heap.size + 1 ≠ g; omega)
  · exact (((Hb1.out.setCell (by simp) _).setCell (by simp) _).setCell (by simp) _).setCell (by simp) _

def CopyHTold (hs : List (List Int)) (w w' : World) (e : Ending) : Prop := ∃ own Z cap, e = .returned (.slice (some ⟨w.heap.size, 0, none⟩) hs.length cap) ∧ OwnAr own w.heap.size w' (.slice (some ⟨w.heap.size, 0, none⟩) hs.length cap) hs Z ∧ Below w.heap.size w w'

set_option maxRecDepth 100000 in
set_option maxHeartbeats 1600000 in
theorem implCopyH {B : Nat} (v : Value) (hs : List (List Int)) (w : World) (hr : ArrRow B w v hs) (hn : bulkH hs ≤ 1048576) :
    Calls Tryz.prog 117 #[v] w fun e w' => CopyHTold hs w w' e := by
  have hl : hs.length ≤ 1048576 := by unfold bulkH at hn; omega
  obtain ⟨i0, hi, hz0, hz1, hz2⟩ := info_parts Tryz.infoInts
  have hmk := fun (W : World) => run_makeSlice (P := Tryz.prog) W 38 28 i0 _ Tryz.underlying38 hi hz0 .i64 .i64 hs.length hs.length (by omega) (by omega) (by rw [hz1]; simp; omega) (by rw [hz2]; omega) (by omega)
  simp only [hz1, Int.toNat_natCast, Nat.mul_one] at hmk
  have Hr : Hid (ArrRow B w v hs) := hr
  obtain ⟨A, cap, rfl⟩ := hr.form
  clear hr
  go_enter Tryz.func117, Tryz.ntmps117
  go_wp2
  clear hmk
  go_loopg [11] (hs.length) (fun g i wr => ∃ k : Nat, k ≤ hs.length ∧ i = .int .i64 k ∧ hs.length ≤ k + g ∧ Slots wr w.heap.size hs.length ∧ Below w.heap.size w wr ∧ ∃ (own : Nat → Nat → Tag) (Z : Nat → Value), ∀ j (h : j < hs.length), j < k → wr.cell? ⟨w.heap.size, j, none⟩ = some (Z j) ∧ IRow (w.heap.size + 1) wr (Z j) hs[j] ∧ Room own (w.heap.size + 1) wr (Z j) 1 (.arr j))
  case atStart =>
    refine ⟨0, Nat.zero_le _, rfl, by omega, ?_, (Below.refl _ _).alloc (Nat.le_refl _) _, fun _ _ => .no, fun _ => .slice none 0 0, fun j _ h => by omega⟩
    have := slots_new w (madeCells #[Value.slice none 0 0] hs.length) 28
    rwa [size_madeCells] at this
  case round =>
    obtain ⟨k, hk, rfl, hkg, hsl, hb, own, Z, hcs⟩ := hrel
    have Hb : Hid (Below w.heap.size w wr) := hb
    have Hs : Hid (Slots wr w.heap.size hs.length) := hsl
    have Hcs : Hid (∀ j (h : j < hs.length), j < k → wr.cell? ⟨w.heap.size, j, none⟩ = some (Z j) ∧ IRow (w.heap.size + 1) wr (Z j) hs[j] ∧ Room own (w.heap.size + 1) wr (Z j) 1 (.arr j)) := hcs
    clear hsl hb hcs
    by_cases hkl : k < hs.length
    · obtain ⟨b, off, x, rfl, hlt, c0, hx⟩ := (Hr.out.below Hb.out).at k hkl
      have Hx : Hid (IRow B wr x hs[k]) := hx
      have hbk : hs[k].length ≤ 1048576 := by have h := sum_le List.length hs k hkl; unfold bulkH at hn; omega
      obtain ⟨Ax, cx, rfl⟩ := hx.form
      have hC := cloneNums (.slice Ax hs[k].length cx) hs[k] wr Hx.out hbk
      have HC : Hid (Calls Tryz.prog 118 #[.slice Ax hs[k].length cx] wr fun e w' => NumsTold hs[k] wr w' e) := hC
      clear hx hC
      go_wp2_with fail
      refine Calls.mono (R := fun e w' => NumsTold hs[k] wr w' e) HC.out ?_
      rintro e w1 ⟨v1, rfl, hown, hb1⟩
      have hi1 : IRow wr.heap.size w1 v1 hs[k] := IRow.of_owns hown (by omega)
      have hr1 : Room (fun b j => if b < wr.heap.size then own b j else .arr k) wr.heap.size w1 v1 1 (.arr k) := Room.of_owns hown (fun g hg j => by have := (hown.lt g hg).1; show (if g < wr.heap.size then own g j else Tag.arr k) = _; rw [if_neg (by omega)])
      have Hi1 : Hid (IRow (w.heap.size + 1) w1 v1 hs[k]) := hi1.lower Hs.out.1
      have Hr1 : Hid (Room (fun b j => if b < wr.heap.size then own b j else .arr k) (w.heap.size + 1) w1 v1 1 (.arr k)) := hr1.lower Hs.out.1
      have Hb1 : Hid (Below wr.heap.size wr w1) := hb1
      have Hs1 : Hid (Slots w1 w.heap.size hs.length) := Hs.out.below hb1
      have hw0 : w.heap.size < w1.heap.size := Hs1.out.1
      obtain ⟨⟨z0, hz0⟩, f0⟩ := Hs1.out.2 k hkl
      obtain ⟨A1, c1, rfl⟩ := hi1.form
      clear hown hb1 hi1 hr1 HC c0
      go_wp2_with fail
      go_roundg (gk - 1)
      case measure => omega
      case rel =>
        refine ⟨k + 1, by omega, by go_num, by omega, Hs1.out.set _ _, (Hb.out.trans (Hb1.out.mono Hb.out.size)).setCell (by simp) _, fun b j => if b < wr.heap.size then own b j else .arr k, fun j => if j = k then .slice A1 hs[k].length c1 else Z j, fun j hj hjk => ?_⟩
        by_cases he : j = k
        · subst he
          simp only [if_true]
          exact ⟨cell_set_at Hs1.out hj _, Hi1.out.set (by simp) _, Hr1.out.setLow (by simp) _⟩
        · simp only [if_neg he]
          obtain ⟨h1, h2, h3⟩ := Hcs.out j hj (by omega)
          refine ⟨by rw [cell_set_far _ _ _ _ _ (by omega), Hb1.out.cell (by exact Hs.out.1)]; exact h1, (h2.below Hb1.out).set (by simp) _, ((h3.ext (fun b i _ hb => if_pos hb)).below Hb1.out).setLow (by simp) _⟩
    · have hke : k = hs.length := by omega
      subst hke
      go_wp2_with fail
      go_ret
      refine ⟨fun b j => if b = w.heap.size then .hp else own b j, Z, hs.length, rfl, ⟨hl, ⟨_, _, rfl⟩, ⟨_, _, _, rfl, Nat.le_refl _, fun j hj => ⟨w.heap.size, 0, rfl, Nat.le_refl _, Hs.out.1, ?_, ?_, if_pos rfl⟩⟩, fun i hi => ⟨w.heap.size, 0, _, rfl, by rw [Nat.zero_add]; exact (Hcs.out i hi hi).1⟩, fun i hi => ⟨(Hcs.out i hi hi).2.1.lower (by omega), ((Hcs.out i hi hi).2.2.ext (fun b j hb _ => if_neg (by omega))).lower (by omega)⟩⟩, Hb.out⟩
      · obtain ⟨z, hz⟩ := (Hs.out.2 j (by omega)).1
        rw [Nat.zero_add, hz]; rfl
      · rw [Nat.zero_add]; exact (Hs.out.2 j (by omega)).2
end Go.Proofs.YtnknnncehcofnaaGreatDoor
