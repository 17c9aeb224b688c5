/- impl.noneSeen. -/
import Derived.Test.YtjifpeiilcneeaaDoorSeenA
namespace Go.Proofs.YtjifpeiilcneeaaDoor
open Go.RowKit

def NoneTold (p : List FnM) (w w' : World) (e : Ending) : Prop := ∃ b, e = .returned (.map (some b)) ∧ w.heap.size ≤ b ∧ MapS w' b (jzP p p.length) ∧ Below w.heap.size w w'

theorem opOf_get (c : List (Int × Int)) (k : Nat) (h : k < c.length) : opOf c k = c[k].1 := by simp [opOf, List.getD, h]

theorem fn_code (p : List FnM) (f : Nat) (h : f < p.length) : (fnAt p f).code = p[f].code := by simp [fnAt, List.getD, h]

set_option maxRecDepth 100000 in
set_option maxHeartbeats 3200000 in
theorem implNone {B : Nat} (v : Value) (p : List FnM) (w : World) (hr : FnRow B w v p) (hbk : bulk p ≤ 1048576) :
    Calls Tryd.prog 22 #[.agg #[v]] w fun e w' => NoneTold p w w' e := by
  have Hr : Hid (FnRow B w v p) := hr
  have hlen := hr.len
  have hpl : p.length ≤ 1048576 := by unfold bulk at hbk; omega
  obtain ⟨A, cap, rfl⟩ := hr.form
  clear hr
  have hmm := @run_makeMap Tryd.prog
  have X2 : Hid (Below w.heap.size w ((w.alloc (.cells #[.slice A p.length cap] 31)).alloc (.map #[] 0))) := ((Below.refl _ _).alloc (Nat.le_refl _) _).alloc (by simp) _
  have XM : Hid (MapS ((w.alloc (.cells #[.slice A p.length cap] 31)).alloc (.map #[] 0)) (w.heap.size + 1) []) := ⟨#[], 0, by have := (MapKept.heap_alloc (w.alloc (.cells #[.slice A p.length cap] 31)) (.map #[] 0)).1; simpa using this, rfl⟩
  go_enter Tryd.func22, Tryd.ntmps22
  go_wp2_with fail
  clear hmm
  go_loopg [12] (p.length) (fun g i wr => ∃ q : Nat, q ≤ p.length ∧ i = .int .i64 q ∧ p.length ≤ q + g ∧ MapS wr (w.heap.size + 1) (jzP p q) ∧ Below w.heap.size w wr)
  case atStart => exact ⟨0, Nat.zero_le _, rfl, by omega, XM.out, X2.out⟩
  case round =>
    clear XM X2
    rename World => wo
    obtain ⟨q, hq, rfl, hqg, hM, hb⟩ := hrel
    obtain ⟨gO, hgO⟩ : ∃ g, g = gk := ⟨_, rfl⟩
    have HM : Hid (MapS wo (w.heap.size + 1) (jzP p q)) := hM
    have Hb : Hid (Below w.heap.size w wo) := hb
    clear hM hb
    by_cases hql : q < p.length
    · obtain ⟨b0, off0, x, rfl, hlt0', e0', e1', e2', hx⟩ := Hr.out.at q hql
      have hlt0 : b0 < wo.heap.size := Nat.lt_of_lt_of_le hlt0' Hb.out.size
      have e0 := (Hb.out.cell (p := ⟨b0, off0 + q * 3, none⟩) (by exact hlt0')).trans e0'
      have e1 := (Hb.out.cell (p := ⟨b0, off0 + q * 3 + 1, none⟩) (by exact hlt0')).trans e1'
      have e2 := (Hb.out.cell (p := ⟨b0, off0 + q * 3 + 2, none⟩) (by exact hlt0')).trans e2'
      clear hlt0' e0' e1' e2'
      obtain ⟨c, hc⟩ : ∃ c, c = p[q].code := ⟨_, rfl⟩
      have Hc : Hid (c = (fnAt p q).code) := by show c = _; rw [fn_code p q hql]; exact hc
      have hcl : c.length ≤ 1048576 := by have := code_le_bulk p q hql; rw [hc]; omega
      rw [← hc] at hx
      have Hx : Hid (InsRow B w x c) := hx
      obtain ⟨Ac, capc, rfl⟩ := hx.form
      clear hx hc
      have X2 : Hid (Below wo.heap.size wo (wo.alloc (.cells #[.int .i64 p[q].args, .int .i64 p[q].locals, .slice Ac c.length capc] 73))) := (Below.refl _ _).alloc (Nat.le_refl _) _
      go_wp2_with fail
      clear e0 e1 e2
      go_loopg [20] (c.length) (fun g i wr => ∃ k : Nat, k ≤ c.length ∧ i = .int .i64 k ∧ c.length ≤ k + g ∧ MapS wr (w.heap.size + 1) (jzP p q ++ jzC q c k) ∧ Below w.heap.size w wr)
      case atStart => exact ⟨0, Nat.zero_le _, rfl, by omega, by rw [show jzC q c 0 = [] from rfl, List.append_nil]; exact HM.out.below X2.out, Hb.out.trans (X2.out.mono Hb.out.size)⟩
      case round =>
        clear X2
        obtain ⟨k, hk, rfl, hkg, hM, hb⟩ := hrel
        have HM2 : Hid (MapS wr (w.heap.size + 1) (jzP p q ++ jzC q c k)) := hM
        have Hb2 : Hid (Below w.heap.size w wr) := hb
        clear hM hb
        by_cases hkl : k < c.length
        · obtain ⟨bc, offc, rfl, hltc, d0, d1⟩ := (Hx.out.below Hb2.out).at k hkl
          obtain ⟨op, a, hop⟩ : ∃ op a, c[k] = (op, a) := ⟨_, _, rfl⟩
          rw [hop] at d0 d1
          have Hop : Hid (opOf c k = op) := by show opOf c k = op; rw [opOf_get c k hkl, hop]
          clear hop
          by_cases h31 : op = 31
          · subst h31
            have hal : Below wr.heap.size wr (wr.alloc (.cells #[.int .i64 31, .int .i64 a] 75)) := (Below.refl _ _).alloc (Nat.le_refl _) _
            obtain ⟨es, clock, hup, hM'⟩ := (HM2.out.below hal).update ((q : Int), (k : Int)) (0, 0)
            have hup' : (Instr.mapUpdate 53 (.map (some (w.heap.size + 1))) (.agg #[.int .i64 (q : Int), .int .i64 (k : Int)]) (.agg #[.int .i64 0, .int .i64 0])).run Tryd.prog (wr.alloc (.cells #[.int .i64 31, .int .i64 a] 75)) = .ok () (ChangeMaps.setBlock (wr.alloc (.cells #[.int .i64 31, .int .i64 a] 75)) (w.heap.size + 1) (.map es clock)) := hup
            rw [Hc.out, put_jz p q k (by rw [← Hc.out]; exact Hop.out), ← Hc.out] at hM'
            have HM3 : Hid (MapS (ChangeMaps.setBlock (wr.alloc (.cells #[.int .i64 31, .int .i64 a] 75)) (w.heap.size + 1) (.map es clock)) (w.heap.size + 1) (jzP p q ++ jzC q c (k + 1))) := hM'
            have Hb3 : Hid (Below w.heap.size w (ChangeMaps.setBlock (wr.alloc (.cells #[.int .i64 31, .int .i64 a] 75)) (w.heap.size + 1) (.map es clock))) := below_setBlock (Hb2.out.trans (hal.mono Hb2.out.size)) (by omega) _
            clear hup hM' hal
            go_wp2_with fail
            go_roundg (gk - 1)
            case measure => omega
            case rel => exact ⟨k + 1, by omega, by go_num, by omega, HM3.out, Hb3.out⟩
          · have h31' : (op == 31) = false := by simpa using h31
            have hal : Below wr.heap.size wr (wr.alloc (.cells #[.int .i64 op, .int .i64 a] 75)) := (Below.refl _ _).alloc (Nat.le_refl _) _
            have HM3 : Hid (MapS (wr.alloc (.cells #[.int .i64 op, .int .i64 a] 75)) (w.heap.size + 1) (jzP p q ++ jzC q c (k + 1))) := by
              show MapS _ _ (jzP p q ++ jzC q c (k + 1))
              rw [Hc.out, skip_jz p q k (by rw [← Hc.out, Hop.out]; exact h31), ← Hc.out]
              exact HM2.out.below hal
            have Hb3 : Hid (Below w.heap.size w (wr.alloc (.cells #[.int .i64 op, .int .i64 a] 75))) := Hb2.out.trans (hal.mono Hb2.out.size)
            clear hal
            go_wp2_with fail
            go_roundg (gk - 1)
            case measure => omega
            case rel => exact ⟨k + 1, by omega, by go_num, by omega, HM3.out, Hb3.out⟩
        · have HM3 : Hid (MapS wr (w.heap.size + 1) (jzP p (q + 1))) := by
            show MapS _ _ (jzP p q ++ jzC q (fnAt p q).code (fnAt p q).code.length)
            rw [← Hc.out, ← show k = c.length by omega]
            exact HM2.out
          go_wp2_with fail
          go_roundg (gO - 1)
          case measure => omega
          case rel => exact ⟨q + 1, by omega, by go_num, by omega, HM3.out, Hb2.out⟩
    · have HM3 : Hid (MapS wo (w.heap.size + 1) (jzP p p.length)) := by
        show MapS _ _ (jzP p p.length)
        rw [← show q = p.length by omega]
        exact HM.out
      go_wp2_with fail
      go_ret
      exact ⟨_, rfl, by omega, HM3.out, Hb.out⟩
end Go.Proofs.YtjifpeiilcneeaaDoor
