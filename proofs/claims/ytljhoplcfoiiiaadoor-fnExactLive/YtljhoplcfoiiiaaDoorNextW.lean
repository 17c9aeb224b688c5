/- spec.l08Next: the places to which an instruction goes on. -/
import Derived.Test.YtljhoplcfoiiiaaDoorSpecV
import Derived.Test.YtljhoplcfoiiiaaDoorOwnS
import Derived.Test.YtljhoplcfoiiiaaDoorGoOnW
namespace Go.Proofs.YtljhoplcfoiiiaaDoor
open Go.RowKit

set_option maxRecDepth 100000 in
set_option maxHeartbeats 1600000 in
theorem specNext (k : Nat) (op a : Int) (w : World) (hk : k ≤ 1048576) :
    Calls Tryd.prog 42 #[.agg #[.int .i64 op, .int .i64 a], .int .i64 k] w fun e w' => ∃ v, e = .returned v ∧ IRow w.heap.size w' v (goesTo k (op, a)) ∧ Below w.heap.size w w' := by
  have HO' : ((w.alloc (.cells #[.int .i64 op, .int .i64 a] 65)).alloc (.cells #[] 2)).ownsRow w.heap.size 2 1 (.slice (some ⟨w.heap.size + 1, 0, none⟩) 0 0) 0 [] := by
    have := World.ownsRow_lit (e := 2) (size := 1) (base := w.heap.size) (w.alloc (.cells #[.int .i64 op, .int .i64 a] 65)) #[] 0 (by simp) (Nat.zero_le _) rfl
    rwa [show (w.alloc (.cells #[.int .i64 op, .int .i64 a] 65)).heap.size = w.heap.size + 1 by simp] at this
  have HO : Hid (World.ownsRow _ w.heap.size 2 1 (.slice (some ⟨w.heap.size + 1, 0, none⟩) 0 0) 0 []) := HO'
  clear HO'
  have HC : Hid (∀ x : Value, ∀ (j : Nat) (u : Value), [x][j]? = some u → (((w.alloc (.cells #[.int .i64 op, .int .i64 a] 65)).alloc (.cells #[] 2)).alloc (.cells #[x] 2)).cell? ((⟨w.heap.size + 1 + 1, 0, none⟩ : Addr).add j) = some u) := fun x => by
    have := cell_one_new ((w.alloc (.cells #[.int .i64 op, .int .i64 a] 65)).alloc (.cells #[] 2)) x 2
    rwa [show ((w.alloc (.cells #[.int .i64 op, .int .i64 a] 65)).alloc (.cells #[] 2)).heap.size = w.heap.size + 1 + 1 by simp] at this
  have Hb2 : Hid (∀ o o' : Obj, Below w.heap.size w ((w.alloc o).alloc o')) := fun o o' => ((Below.refl _ _).alloc (Nat.le_refl _) _).alloc (by simp) _
  have X1 : Hid (∀ o', Box ((w.alloc (.cells #[.int .i64 op, .int .i64 a] 65)).alloc o') w.heap.size #[.int .i64 op, .int .i64 a]) := fun o' => (box_new w #[.int .i64 op, .int .i64 a] 65).below ((Below.refl _ _).alloc (Nat.le_refl _) _)
  obtain ⟨i0, hi, hz0, hz1, hz2⟩ := info_parts Tryd.info64
  by_cases h33 : op = 33
  · subst h33
    go_enter Tryd.func42, Tryd.ntmps42
    go_wp2_with fail
    go_ret
    exact ⟨_, rfl, ⟨_, 0, rfl, by simp [goesTo], fun i hi => absurd hi (by simp [goesTo])⟩, Hb2.out _ _⟩
  · have n33 : (op == 33) = false := by simpa using h33
    by_cases h30 : op = 30
    · subst h30
      clear n33 h33
      go_enter Tryd.func42, Tryd.ntmps42
      go_wp2_with (at_builtin; refine wpList_append_own _ rfl _ _ 28 rfl (w.heap.size) 2 i0 (.int .i64 0) 1 8 Tryd.underlying28 hi hz0 hz1 hz2 rfl (by decide) _ _ _ rfl (HO.out.alloc _) ⟨_, 0, none⟩ 1 1 [Value.int .i64 a] rfl rfl (HC.out _) ?c2 ?c3 ?c4 ?c5 ?_)
      case c2 => first | rfl | (intro u hu; simp at hu; subst hu; rfl)
      case c3 => unfold maxLen; omega
      case c4 => omega
      case c5 => simp; omega
      intro v' w4 hown hg hnil
      have HI : Hid (IRow w.heap.size w4 v' [a]) := IRow.of_owns hown (by simp)
      have Hb : Hid (Below w.heap.size w w4) := ((Hb2.out _ _).alloc (by simp; omega) _).grown hg (by simp; omega) (fun j hj => by have := (HO.out.lt j hj).1; omega)
      clear hown hg hnil
      go_wp2_with fail
      go_ret
      exact ⟨_, rfl, HI.out, Hb.out⟩
    · have n30 : (op == 30) = false := by simpa using h30
      by_cases h31 : op = 31
      · subst h31
        clear n33 h33 n30 h30
        go_enter Tryd.func42, Tryd.ntmps42
        go_wp2_with (at_builtin; refine wpList_append_own _ rfl _ _ 28 rfl (w.heap.size) 2 i0 (.int .i64 0) 1 8 Tryd.underlying28 hi hz0 hz1 hz2 rfl (by decide) _ _ _ rfl (HO.out.alloc _) ⟨_, 0, none⟩ 1 1 [Value.int .i64 ((k : Int) + 1)] rfl rfl (HC.out _) ?d2 ?d3 ?d4 ?d5 ?_)
        case d2 => first | rfl | (intro u hu; simp at hu; subst hu; rfl)
        case d3 => unfold maxLen; omega
        case d4 => omega
        case d5 => simp; omega
        intro v' w4 hown hg hnil
        have HI : Hid (w4.ownsRow w.heap.size 2 1 v' 1 [Value.int .i64 ((k : Int) + 1)]) := hown
        have hb4 : Below w.heap.size w w4 := ((Hb2.out _ _).alloc (by simp; omega) _).grown hg (by simp; omega) (fun j hj => by have := (HO.out.lt j hj).1; omega)
        have Hb : Hid (Below w.heap.size w w4) := hb4
        have hbx : Box w4 w.heap.size #[.int .i64 31, .int .i64 a] := ((X1.out _).below ((Below.refl _ _).alloc (Nat.le_refl _) _)).grown hg (by simp [Value.ownBlock])
        have c1 := hbx.at0
        have c2 := hbx.at1
        have cz := hbx.1
        clear hown hg hnil hb4
        go_wp2_with (at_builtin; refine wpList_append_own _ rfl _ _ 28 rfl (w.heap.size) 2 i0 (.int .i64 0) 1 8 Tryd.underlying28 hi hz0 hz1 hz2 rfl (by decide) _ _ _ rfl (HI.out.alloc _) ⟨_, 0, none⟩ 1 1 [Value.int .i64 a] rfl rfl (cell_one_new _ _ _) ?e2 ?e3 ?e4 ?e5 ?_)
        case e2 => first | rfl | (intro u hu; simp at hu; subst hu; rfl)
        case e3 => unfold maxLen; omega
        case e4 => omega
        case e5 => have := Hb.out.size; simp; omega
        intro v5 w5 hown hg hnil
        have HI5 : Hid (IRow w.heap.size w5 v5 [(k : Int) + 1, a]) := IRow.of_owns hown (by simp)
        have Hb5 : Hid (Below w.heap.size w w5) := (Hb.out.alloc Hb.out.size _).grown hg (by have := Hb.out.size; simp; omega) (fun j hj => (HI.out.lt j hj).1)
        clear hown hg hnil
        go_wp2_with fail
        go_ret
        exact ⟨_, rfl, HI5.out, Hb5.out⟩
      · have n31 : (op == 31) = false := by simpa using h31
        have HG : Hid (goesTo k (op, a) = [(k : Int) + 1]) := by
          show goesTo k (op, a) = _
          simp [goesTo, h33, h30, h31]
        have b30 : (op != 30) = true := by simpa using h30
        have b33 : (op != 33) = true := by simpa using h33
        go_enter Tryd.func42, Tryd.ntmps42
        go_wp2_with (at_builtin; refine wpList_append_own _ rfl _ _ 28 rfl (w.heap.size) 2 i0 (.int .i64 0) 1 8 Tryd.underlying28 hi hz0 hz1 hz2 rfl (by decide) _ _ _ rfl (HO.out.alloc _) ⟨_, 0, none⟩ 1 1 [Value.int .i64 ((k : Int) + 1)] rfl rfl (HC.out _) ?f2 ?f3 ?f4 ?f5 ?_)
        case f2 => first | rfl | (intro u hu; simp at hu; subst hu; rfl)
        case f3 => unfold maxLen; omega
        case f4 => omega
        case f5 => simp; omega
        intro v' w4 hown hg hnil
        have HI : Hid (IRow w.heap.size w4 v' [(k : Int) + 1]) := IRow.of_owns hown (by simp)
        have Hb : Hid (Below w.heap.size w w4) := ((Hb2.out _ _).alloc (by simp; omega) _).grown hg (by simp; omega) (fun j hj => by have := (HO.out.lt j hj).1; omega)
        have hbx : Box w4 w.heap.size #[.int .i64 op, .int .i64 a] := ((X1.out _).below ((Below.refl _ _).alloc (Nat.le_refl _) _)).grown hg (by simp [Value.ownBlock])
        have c1 := hbx.at0
        have c2 := hbx.at1
        have cz := hbx.1
        clear hown hg hnil
        go_wp2_with fail
        go_ret
        exact ⟨_, rfl, by rw [HG.out]; exact HI.out, Hb.out⟩
end Go.Proofs.YtljhoplcfoiiiaaDoor
