/- slices.Clone of numbers. -/
import Derived.Test.YtljhoplcfoiiiaaDoorHeiI
import Derived.Test.YtljhoplcfoiiiaaDoorOwnS
namespace Go.Proofs.YtljhoplcfoiiiaaDoor
open Go.RowKit

/-- nothing appended -/
theorem run_append_empty8 (W : World) (g n c cap : Nat) (A : Option Addr) (ty : TypeId) (hc : n ≤ c) :
    (Builtin.append_ #[28, 28] ty #[.slice (some ⟨g, 0, none⟩) n c, .slice A 0 cap]).run Tryd.prog W = .ok (.slice (some ⟨g, 0, none⟩) n c) W := by
  obtain ⟨i0, hi, hz0, hz1, hz2⟩ := info_parts Tryd.info64
  have hl : ∀ (x : Addr), (loadCells x 0).run Tryd.prog W = .ok #[] W := fun x => by simpa using run_loadCells_list (P := Tryd.prog) W x [] (by simp)
  cases A <;> simp [Builtin.append_, run_underlying Tryd.underlying28, Builtin.lenOf, Builtin.firstCells, sizeOf, typeInfo, hi, hz1, hc, storeCells, hl]

theorem wpList_append_empty8 {w : World} {ops : Array Oper} {rest : List Oper} {o : Oper} {a : Act} {Q : Exit → Act → World → Prop} (hgd : o.guard = none) (sl x : Operand)
    (ho : o.op = .call { callee := .builtin .append, args := #[sl, x], argTypes := #[28, 28] })
    (g n c cap : Nat) (A : Option Addr) (hs : a.eval sl = .slice (some ⟨g, 0, none⟩) n c) (hx : a.eval x = .slice A 0 cap) (hc : n ≤ c)
    (h : wpList Tryd.prog ops Q rest (a.put o.dst (.slice (some ⟨g, 0, none⟩) n c)) w) : wpList Tryd.prog ops Q (o :: rest) a w := by
  have hr := run_append_empty8 w g n c cap A o.type hc
  refine wpList_plain hgd fun K hK => ?_
  unfold Oper.wp execOp
  simp only [ho, resolve, invoke, builtin, Sem.run_bind, Sem.run_pure, Result.andThen_ok, List.map_toArray, List.map_cons, List.map_nil, hs, hx, hr]
  exact hK _ _ h

def NumsTold8 (l : List Int) (w w' : World) (e : Ending) : Prop := ∃ v', e = .returned v' ∧ w'.ownsRow w.heap.size 2 1 v' l.length (ints l) ∧ Below w.heap.size w w'

set_option maxRecDepth 100000 in
set_option maxHeartbeats 800000 in
theorem cloneNums8 {B : Nat} (v : Value) (l : List Int) (w : World) (hv : IRow B w v l) (hl : l.length ≤ 1048576) :
    Calls Tryd.prog 76 #[v] w fun e w' => NumsTold8 l w w' e := by
  obtain ⟨i0, hi, hz0, hz1, hz2⟩ := info_parts Tryd.info64
  have Hv : Hid (IRow B w v l) := hv
  obtain ⟨A, cap, rfl⟩ := hv.form
  have hal : Below w.heap.size w (w.alloc (.cells #[] 2)) := (Below.refl _ _).alloc (Nat.le_refl _) _
  have ho := World.ownsRow_lit (base := w.heap.size) (e := 2) (size := 1) w #[] 0 (Nat.le_refl _) (Nat.zero_le _) rfl
  clear hv
  by_cases h0 : l.length = 0
  · have hn : l = [] := List.length_eq_zero_iff.1 h0
    subst hn
    have HO : Hid ((w.alloc (.cells #[] 2)).ownsRow w.heap.size 2 1 (.slice (some ⟨w.heap.size, 0, none⟩) 0 0) 0 (ints [])) := ho
    have Hal : Hid (Below w.heap.size w (w.alloc (.cells #[] 2))) := hal
    clear ho hal
    cases A with
    | none =>
      have hq : (binOp .eql 28 (.slice none 0 cap) (.slice none 0 0)).run Tryd.prog w = .ok (.bool true) w := run_eql_slice_nil w 28 2 none 0 cap Tryd.underlying28
      go_enter Tryd.func76, Tryd.ntmps76
      go_wp2_with fail
      go_ret
      exact ⟨_, rfl, ⟨by simp [ints], .inl ⟨rfl, rfl⟩⟩, Below.refl _ _⟩
    | some ad =>
      have hq : (binOp .eql 28 (.slice (some ad) 0 cap) (.slice none 0 0)).run Tryd.prog w = .ok (.bool false) w := run_eql_slice_nil w 28 2 (some ad) 0 cap Tryd.underlying28
      go_enter Tryd.func76, Tryd.ntmps76
      go_wp2_with (at_builtin; refine wpList_append_empty8 rfl _ _ rfl _ 0 0 cap (some ad) rfl rfl (Nat.le_refl _) ?_)
      go_wp2_with fail
      go_ret
      exact ⟨_, rfl, HO.out, Hal.out⟩
  · obtain ⟨b, off, rfl, _, hlt, _⟩ := Hv.out.at 0 (by omega)
    have Hc : Hid (∀ j u, (ints l)[j]? = some u → (w.alloc (.cells #[] 2)).cell? ((⟨b, off, none⟩ : Addr).add j) = some u) := fun j u hu => by
      have hj : j < l.length := by have := (List.getElem?_eq_some_iff.1 hu).1; rwa [ints_length] at this
      obtain ⟨b', off', e, _, _, h3⟩ := (Hv.out.below hal).at j hj
      simp only [Option.some.injEq, Addr.mk.injEq, and_true] at e
      obtain ⟨rfl, rfl⟩ := e
      rw [Addr.add_lit, h3, ← hu]
      simp [ints, hj]
    have HO : Hid ((w.alloc (.cells #[] 2)).ownsRow w.heap.size 2 1 (.slice (some ⟨w.heap.size, 0, none⟩) 0 0) 0 []) := ho
    have Hal : Hid (Below w.heap.size w (w.alloc (.cells #[] 2))) := hal
    have hq : (binOp .eql 28 (.slice (some ⟨b, off, none⟩) l.length cap) (.slice none 0 0)).run Tryd.prog w = .ok (.bool false) w := run_eql_slice_nil w 28 2 (some ⟨b, off, none⟩) l.length cap Tryd.underlying28
    clear ho hal
    go_enter Tryd.func76, Tryd.ntmps76
    go_wp2_with (at_builtin; refine wpList_append_own _ rfl _ _ 28 rfl w.heap.size 2 i0 (.int .i64 0) 1 8 Tryd.underlying28 hi hz0 hz1 hz2 rfl (by decide) _ _ _ rfl HO.out ⟨b, off, none⟩ l.length cap (ints l) rfl (by rw [ints_length]; omega) Hc.out ?c2 ?c3 ?c4 ?c5 ?_)
    case c2 => intro u hu; simp [ints] at hu; obtain ⟨a, _, rfl⟩ := hu; rfl
    case c3 => unfold maxLen; omega
    case c4 => omega
    case c5 => simp
    intro v' w1 hown hg _
    have H1 : Hid (w1.ownsRow w.heap.size 2 1 v' l.length (ints l)) := by show w1.ownsRow _ _ _ _ _ _; simpa using hown
    have Hb1 : Hid (Below w.heap.size w w1) := Hal.out.grown hg (by have := Hal.out.size; exact this) (fun k hk => by simp [Value.ownBlock] at hk; omega)
    clear hown hg
    go_wp2_with fail
    go_ret
    exact ⟨_, rfl, H1.out, Hb1.out⟩

/-- a row of the call's own, one number at least, by its cells -/
theorem own_vrow {B : Nat} {w : World} {v : Value} {zs : List Int} (h : w.ownsRow B 2 1 v zs.length (ints zs)) (h1 : 1 ≤ zs.length) : ∃ g cap, v = .slice (some ⟨g, 0, none⟩) zs.length cap ∧ B ≤ g ∧ VRow w g (ints zs) := by
  obtain ⟨_, h2⟩ := h
  rcases h2 with ⟨_, h0⟩ | ⟨g, cap, cur, rfl, hb, hh, hn, hm, hs, ht⟩
  · omega
  · refine ⟨g, cap, rfl, hb, (Array.getElem?_eq_some_iff.1 hh).1, fun j hj => ?_⟩
    rw [ints_length] at hj
    have hj2 : j < cur.size := by omega
    have e : (ints zs)[j]? = cur.toList[j]? := by rw [← ht, List.getElem?_take]; simp; omega
    constructor
    · have : (ints zs)[j]? = some (ints zs)[j] := by simp [ints_length, hj]
      rw [this] at e
      simp only [World.cell?, hh]
      simpa using e.symm
    · simp [World.frozen?, hh]
end Go.Proofs.YtljhoplcfoiiiaaDoor
