/- impl.FuncSame, spec.FuncSame; impl.ProgramSame, spec.ProgramSame. -/
import Derived.Test.YtchlheionnfknaaPrgEq
import Derived.Laws.StructEq
namespace Go.Proofs.Ytchlheionnfknaa
open Go.RowKit

theorem eqI (a b c d : Int) (w : World) : (Op.equalIn 10000 44 (.agg #[.int .i64 a, .int .i64 b]) (.agg #[.int .i64 c, .int .i64 d])).run Try.prog w = .ok (a == c && b == d) w := by
  have u3 := Try.underlying2
  have a3 := Try.isAgg2
  have z3 := Try.sizeOf2
  have hS : Try.prog.underlying 44 = some (.struct (Try.prog.fieldsOf 44)) := by kernel_rfl
  have hp : Try.prog.stoodInHeld 44 = false := by kernel_rfl
  rw [show (10000 : Nat) = 9999 + 1 from rfl, run_equalIn_agg w 9999 44 _ _ hS hp]
  simp only [Program.fieldsOf, Try.underlying44]
  go_simp
  by_cases h1 : a = c <;> by_cases h2 : b = d <;> simp [h1, h2]

def sameF (f g : FnM) : Bool := decide (f = g)

theorem pair_ne {a b : Int × Int} (h : ¬ a = b) : (a.1 == b.1 && a.2 == b.2) = false := by
  rw [Bool.and_eq_false_iff]
  by_cases h1 : a.1 = b.1
  · exact .inr (by rw [beq_eq_false_iff_ne]; exact fun h2 => h (Prod.ext h1 h2))
  · exact .inl (by rwa [beq_eq_false_iff_ne])

theorem sameF_of {x y : Int} {c d : List (Int × Int)} (hl : c.length = d.length) (h : ∀ j (h : j < c.length) (h' : j < d.length), c[j] = d[j]) : sameF ⟨x, y, c⟩ ⟨x, y, d⟩ = true := by
  have : c = d := List.ext_getElem hl fun j h1 h2 => h j h1 h2
  subst this
  simp [sameF]

theorem sameF_not {x y : Int} {c d : List (Int × Int)} (j : Nat) (h : j < c.length) (h' : j < d.length) (hne : ¬ c[j] = d[j]) : sameF ⟨x, y, c⟩ ⟨x, y, d⟩ = false := by
  simp only [sameF, decide_eq_false_iff_not, FnM.mk.injEq, true_and]
  intro e
  subst e
  exact hne rfl

set_option maxRecDepth 100000 in
set_option maxHeartbeats 1600000 in
theorem specSameF {B C : Nat} (x y x' y' : Int) (v u : Value) (c d : List (Int × Int)) (w : World) (hr : InsRow B w v c) (ht : InsRow C w u d) :
    Calls Try.prog 6 #[.agg #[.int .i64 x, .int .i64 y, v], .agg #[.int .i64 x', .int .i64 y', u]] w fun e w' => e = .returned (.bool (sameF ⟨x, y, c⟩ ⟨x', y', d⟩)) ∧ Below w.heap.size w w' := by
  have Hba : Hid (∀ o o' : Obj, Below w.heap.size w ((w.alloc o).alloc o')) := fun o o' => ((Below.refl _ _).alloc (Nat.le_refl _) _).alloc (by simp) _
  have Hr : Hid (InsRow B w v c) := hr
  have Ht : Hid (InsRow C w u d) := ht
  obtain ⟨A, cap, rfl, hcl, _⟩ := hr
  obtain ⟨D, dap, rfl, hdl, _⟩ := ht
  by_cases hx : x = x'
  · subst hx
    by_cases hy : y = y'
    · subst hy
      by_cases hl : c.length = d.length
      · rw [hl] at Hr ⊢
        have Hl : Hid (c.length = d.length) := hl
        clear hl hcl
        go_enter Try.func6, Try.ntmps6
        go_wp2_with fail
        go_loopw [5] (fun i wr => ∃ k : Nat, k ≤ d.length ∧ i = .int .i64 k ∧ Box wr w.heap.size #[.int .i64 x, .int .i64 y, .slice A d.length cap] ∧ Box wr (w.heap.size + 1) #[.int .i64 x, .int .i64 y, .slice D d.length dap] ∧ Below w.heap.size w wr ∧ ∀ j (h : j < c.length) (h' : j < d.length), j < k → c[j] = d[j])
          (fun i _ => d.length - (intOf i).toNat)
        case atStart =>
          obtain ⟨x0, x1, x2⟩ := boxes_new w #[.int .i64 x, .int .i64 y, .slice A d.length cap] #[.int .i64 x, .int .i64 y, .slice D d.length dap] 29 29
          exact ⟨0, Nat.zero_le _, rfl, x0, x1, x2, fun j _ _ h => by omega⟩
        case round =>
          obtain ⟨k, hk, rfl, hB0, hB1, hb, hsame⟩ := hrel
          have q0 := hB0.at2
          have q1 := hB1.at2
          have HB0 : Hid (Box wr w.heap.size #[.int .i64 x, .int .i64 y, .slice A d.length cap]) := hB0
          have HB1 : Hid (Box wr (w.heap.size + 1) #[.int .i64 x, .int .i64 y, .slice D d.length dap]) := hB1
          have Hb : Hid (Below w.heap.size w wr) := hb
          have Hsame : Hid (∀ j (h : j < c.length) (h' : j < d.length), j < k → c[j] = d[j]) := hsame
          clear hB0 hB1 hb hsame
          by_cases hkl : k < d.length
          · have hkc : k < c.length := by rw [Hl.out]; exact hkl
            obtain ⟨b, off, rfl, hlt, c0, c1⟩ := (Hr.out.below Hb.out).at k hkc
            obtain ⟨b', off', rfl, hlt', d0, d1⟩ := (Ht.out.below Hb.out).at k hkl
            have he := eqI
            by_cases hcd : c[k] = d[k]
            · have Hcd : Hid (c[k] = d[k]) := hcd
              rw [hcd] at c0 c1
              clear hcd
              go_upto_region 6 with fail
              go_quiet (fail)
              go_wp2_with fail
              go_roundw
              case rel => exact ⟨k + 1, by omega, by go_num, HB0.out.below (below_drewN (Below.refl _ _) _), HB1.out.below (below_drewN (Below.refl _ _) _), below_drewN Hb.out _, fun j h h' hj => if e : j = k then by subst e; exact Hcd.out else Hsame.out j h h' (by omega)⟩
              case measure => simp [intOf]; omega
            · have hne := pair_ne hcd
              have HT : Hid (sameF ⟨x, y, c⟩ ⟨x, y, d⟩ = false) := sameF_not k hkc hkl hcd
              clear hcd
              go_upto_region 6 with fail
              go_quiet (fail)
              go_wp2_with fail
              go_ret
              exact ⟨by rw [HT.out]; rfl, below_drewN Hb.out _⟩
          · go_wp2_with fail
            go_ret
            exact ⟨by rw [sameF_of Hl.out fun j h h' => Hsame.out j h h' (by omega)]; rfl, Hb.out⟩
      · have hl' : ((c.length : Int) != (d.length : Int)) = true := by simpa using (show ¬ (c.length : Int) = (d.length : Int) by omega)
        have HT : Hid (sameF ⟨x, y, c⟩ ⟨x, y, d⟩ = false) := by
          show sameF _ _ = false
          simp only [sameF, decide_eq_false_iff_not, FnM.mk.injEq, true_and]
          intro e
          exact hl (by rw [e])
        go_enter Try.func6, Try.ntmps6
        go_wp2_with fail
        go_ret
        exact ⟨by rw [HT.out]; rfl, Hba.out _ _⟩
    · have hy' : (y != y') = true := by simpa using hy
      have HT : Hid (sameF ⟨x, y, c⟩ ⟨x, y', d⟩ = false) := by show sameF _ _ = false; simp [sameF, hy]
      go_enter Try.func6, Try.ntmps6
      go_wp2_with fail
      go_ret
      exact ⟨by rw [HT.out]; rfl, Hba.out _ _⟩
  · have hx' : (x != x') = true := by simpa using hx
    have HT : Hid (sameF ⟨x, y, c⟩ ⟨x', y', d⟩ = false) := by show sameF _ _ = false; simp [sameF, hx]
    go_enter Try.func6, Try.ntmps6
    go_wp2_with fail
    go_ret
    exact ⟨by rw [HT.out]; rfl, Hba.out _ _⟩
set_option maxRecDepth 100000 in
set_option maxHeartbeats 1600000 in
theorem implSameF {B C : Nat} (x y x' y' : Int) (v u : Value) (c d : List (Int × Int)) (w : World) (hr : InsRow B w v c) (ht : InsRow C w u d) :
    Calls Try.prog 8 #[.agg #[.int .i64 x, .int .i64 y, v], .agg #[.int .i64 x', .int .i64 y', u]] w fun e w' => e = .returned (.bool (sameF ⟨x, y, c⟩ ⟨x', y', d⟩)) ∧ Below w.heap.size w w' := by
  have Hba : Hid (∀ o o' : Obj, Below w.heap.size w ((w.alloc o).alloc o')) := fun o o' => ((Below.refl _ _).alloc (Nat.le_refl _) _).alloc (by simp) _
  have Hr : Hid (InsRow B w v c) := hr
  have Ht : Hid (InsRow C w u d) := ht
  obtain ⟨A, cap, rfl, hcl, _⟩ := hr
  obtain ⟨D, dap, rfl, hdl, _⟩ := ht
  by_cases hx : x = x'
  · subst hx
    by_cases hy : y = y'
    · subst hy
      by_cases hl : c.length = d.length
      · rw [hl] at Hr ⊢
        have Hl : Hid (c.length = d.length) := hl
        clear hl hcl
        go_enter Try.func8, Try.ntmps8
        go_wp2_with fail
        go_loopw [31] (fun i wr => ∃ k : Nat, k ≤ d.length ∧ i = .int .i64 k ∧ Box wr w.heap.size #[.int .i64 x, .int .i64 y, .slice A d.length cap] ∧ Box wr (w.heap.size + 1) #[.int .i64 x, .int .i64 y, .slice D d.length dap] ∧ Below w.heap.size w wr ∧ ∀ j (h : j < c.length) (h' : j < d.length), j < k → c[j] = d[j])
          (fun i _ => d.length - (intOf i).toNat)
        case atStart =>
          obtain ⟨x0, x1, x2⟩ := boxes_new w #[.int .i64 x, .int .i64 y, .slice A d.length cap] #[.int .i64 x, .int .i64 y, .slice D d.length dap] 29 29
          exact ⟨0, Nat.zero_le _, rfl, x0, x1, x2, fun j _ _ h => by omega⟩
        case round =>
          obtain ⟨k, hk, rfl, hB0, hB1, hb, hsame⟩ := hrel
          have q0 := hB0.at2
          have q1 := hB1.at2
          have HB0 : Hid (Box wr w.heap.size #[.int .i64 x, .int .i64 y, .slice A d.length cap]) := hB0
          have HB1 : Hid (Box wr (w.heap.size + 1) #[.int .i64 x, .int .i64 y, .slice D d.length dap]) := hB1
          have Hb : Hid (Below w.heap.size w wr) := hb
          have Hsame : Hid (∀ j (h : j < c.length) (h' : j < d.length), j < k → c[j] = d[j]) := hsame
          have hz1 := HB1.out.1
          clear hB0 hB1 hb hsame
          by_cases hkl : k < d.length
          · have hkc : k < c.length := by rw [Hl.out]; exact hkl
            obtain ⟨b, off, rfl, hlt, c0, c1⟩ := (Hr.out.below Hb.out).at k hkc
            obtain ⟨b', off', rfl, hlt', d0, d1⟩ := (Ht.out.below Hb.out).at k hkl
            have he := eqI
            by_cases hcd : c[k] = d[k]
            · have Hcd : Hid (c[k] = d[k]) := hcd
              rw [hcd] at c0 c1
              clear hcd
              go_upto_region 6 with fail
              go_quiet (fail)
              go_wp2_with fail
              go_roundw
              case rel => exact ⟨k + 1, by omega, by go_num, HB0.out.below (below_drewN ((Below.refl _ _).alloc (Nat.le_refl _) _) _), HB1.out.below (below_drewN ((Below.refl _ _).alloc (Nat.le_refl _) _) _), below_drewN (Hb.out.alloc Hb.out.size _) _, fun j h h' hj => if e : j = k then by subst e; exact Hcd.out else Hsame.out j h h' (by omega)⟩
              case measure => simp [intOf]; omega
            · have hne := pair_ne hcd
              have HT : Hid (sameF ⟨x, y, c⟩ ⟨x, y, d⟩ = false) := sameF_not k hkc hkl hcd
              clear hcd
              go_upto_region 6 with fail
              go_quiet (fail)
              go_wp2_with fail
              go_ret
              exact ⟨by rw [HT.out]; rfl, below_drewN (Hb.out.alloc Hb.out.size _) _⟩
          · go_wp2_with fail
            go_ret
            exact ⟨by rw [sameF_of Hl.out fun j h h' => Hsame.out j h h' (by omega)]; rfl, Hb.out⟩
      · have hl' : ((c.length : Int) != (d.length : Int)) = true := by simpa using (show ¬ (c.length : Int) = (d.length : Int) by omega)
        have HT : Hid (sameF ⟨x, y, c⟩ ⟨x, y, d⟩ = false) := by
          show sameF _ _ = false
          simp only [sameF, decide_eq_false_iff_not, FnM.mk.injEq, true_and]
          intro e
          exact hl (by rw [e])
        go_enter Try.func8, Try.ntmps8
        go_wp2_with fail
        go_ret
        exact ⟨by rw [HT.out]; rfl, Hba.out _ _⟩
    · have hy' : (y != y') = true := by simpa using hy
      have HT : Hid (sameF ⟨x, y, c⟩ ⟨x, y', d⟩ = false) := by show sameF _ _ = false; simp [sameF, hy]
      go_enter Try.func8, Try.ntmps8
      go_wp2_with fail
      go_ret
      exact ⟨by rw [HT.out]; rfl, Hba.out _ _⟩
  · have hx' : (x != x') = true := by simpa using hx
    have HT : Hid (sameF ⟨x, y, c⟩ ⟨x', y', d⟩ = false) := by show sameF _ _ = false; simp [sameF, hx]
    go_enter Try.func8, Try.ntmps8
    go_wp2_with fail
    go_ret
    exact ⟨by rw [HT.out]; rfl, Hba.out _ _⟩
end Go.Proofs.Ytchlheionnfknaa
