/- impl.spotOf, countsOf, countRight, right, spotOrder, guessOf: of plain numbers. impl.noneSeen. -/
import Derived.Test.YtclcnillnfkjoaaGreatDoorSeenP
import Derived.Laws.StructEq
import Derived.Deep.LoopGhost
namespace Go.Proofs.YtclcnillnfkjoaaGreatDoor
open Go.RowKit

theorem implSpotOf (a b c d : Int) (w : World) :
    Calls Tryz.prog 78 #[.agg #[.int .i64 a, .int .i64 b, .int .i64 c, .int .i64 d]] w fun e w' => e = .returned (.agg #[.int .i64 a, .int .i64 b]) ∧ Below w.heap.size w w' := by
  go_enter Tryz.func78, Tryz.ntmps78
  go_wp2
  exact bodyPost_ret (v := .agg #[.int .i64 a, .int .i64 b]) (by simp [results, Tryz.results78, go_sem]) rfl ⟨rfl, ((Below.refl _ _).alloc (Nat.le_refl _) _).alloc (by simp) _⟩

theorem implCountsOf (a b c d : Int) (w : World) :
    Calls Tryz.prog 79 #[.agg #[.int .i64 a, .int .i64 b, .int .i64 c, .int .i64 d]] w fun e w' => e = .returned (.agg #[.int .i64 c, .int .i64 d]) ∧ Below w.heap.size w w' := by
  go_enter Tryz.func79, Tryz.ntmps79
  go_wp2
  exact bodyPost_ret (v := .agg #[.int .i64 c, .int .i64 d]) (by simp [results, Tryz.results79, go_sem]) rfl ⟨rfl, ((Below.refl _ _).alloc (Nat.le_refl _) _).alloc (by simp) _⟩

theorem implCountRight (n : Int) (w : World) :
    Calls Tryz.prog 106 #[.int .i64 n] w fun e w' => e = .returned (.bool (decide (0 ≤ n ∧ n ≤ 1000000))) ∧ w' = w := by
  obtain ⟨b, Hb⟩ : ∃ b, Hid (b = decide (0 ≤ n ∧ n ≤ 1000000)) := ⟨_, rfl⟩
  rw [← Hb.out]
  by_cases h0 : 0 ≤ n
  · by_cases h1 : n ≤ 1000000
    · go_enter Tryz.func106, Tryz.ntmps106
      go_wp2
      go_ret
      exact ⟨by rw [Hb.out]; simp [h0, h1], rfl⟩
    · go_enter Tryz.func106, Tryz.ntmps106
      go_wp2
      go_ret
      exact ⟨by rw [Hb.out]; simp [h1], rfl⟩
  · go_enter Tryz.func106, Tryz.ntmps106
    go_wp2
    go_ret
    exact ⟨by rw [Hb.out, decide_eq_false (by omega)]; rfl, rfl⟩

theorem eqCounts (a b c d : Int) (w : World) : (Op.equalIn 10000 128 (.agg #[.int .i64 a, .int .i64 b]) (.agg #[.int .i64 c, .int .i64 d])).run Tryz.prog w = .ok (a == c && b == d) w := by
  have u3 := Tryz.underlying2
  have a3 := Tryz.isAgg2
  have z3 := Tryz.sizeOf2
  have hS : Tryz.prog.underlying 128 = some (.struct (Tryz.prog.fieldsOf 128)) := by kernel_rfl
  have hp : Tryz.prog.stoodInHeld 128 = false := by kernel_rfl
  rw [show (10000 : Nat) = 9999 + 1 from rfl, run_equalIn_agg w 9999 128 _ _ hS hp]
  simp only [Program.fieldsOf, Tryz.underlying128]
  go_simp
  by_cases h1 : a = c <;> by_cases h2 : b = d <;> simp [h1, h2]

theorem eqSpotIn (a b c d : Int) (w : World) : (Op.equalIn 10000 131 (.agg #[.int .i64 a, .int .i64 b]) (.agg #[.int .i64 c, .int .i64 d])).run Tryz.prog w = .ok (a == c && b == d) w := by
  have u3 := Tryz.underlying2
  have a3 := Tryz.isAgg2
  have z3 := Tryz.sizeOf2
  have hS : Tryz.prog.underlying 131 = some (.struct (Tryz.prog.fieldsOf 131)) := by kernel_rfl
  have hp : Tryz.prog.stoodInHeld 131 = false := by kernel_rfl
  rw [show (10000 : Nat) = 9999 + 1 from rfl, run_equalIn_agg w 9999 131 _ _ hS hp]
  simp only [Program.fieldsOf, Tryz.underlying131]
  go_simp
  by_cases h1 : a = c <;> by_cases h2 : b = d <;> simp [h1, h2]

/-- counts that may stand in a profile -/
theorem implCntRight (a b : Int) (w : World) :
    Calls Tryz.prog 80 #[.agg #[.int .i64 a, .int .i64 b]] w fun e w' => e = .returned (.bool (decide ((0 ≤ a ∧ a ≤ 1000000) ∧ (0 ≤ b ∧ b ≤ 1000000) ∧ ¬ (a = 0 ∧ b = 0)))) ∧ Below w.heap.size w w' := by
  obtain ⟨r, Hr⟩ : ∃ r, Hid (r = decide ((0 ≤ a ∧ a ≤ 1000000) ∧ (0 ≤ b ∧ b ≤ 1000000) ∧ ¬ (a = 0 ∧ b = 0))) := ⟨_, rfl⟩
  rw [← Hr.out]
  have heq := eqCounts a b 0 0
  obtain ⟨ba, hba⟩ : ∃ ba, ba = decide (0 ≤ a ∧ a ≤ 1000000) := ⟨_, rfl⟩
  obtain ⟨bb, hbb⟩ : ∃ bb, bb = decide (0 ≤ b ∧ b ≤ 1000000) := ⟨_, rfl⟩
  obtain ⟨bz, hbz⟩ : ∃ bz, bz = (a == 0 && b == 0) := ⟨_, rfl⟩
  have HR : Hid (r = (ba && bb && !bz)) := by
    show r = _
    rw [Hr.out, hba, hbb, hbz]
    by_cases h1 : (0 ≤ a ∧ a ≤ 1000000) <;> by_cases h2 : (0 ≤ b ∧ b ≤ 1000000) <;> by_cases h3 : a = 0 <;> by_cases h4 : b = 0 <;> simp [h1, h2, h3, h4]
  rw [← hbz] at heq
  have Hca : Hid (∀ W, Calls Tryz.prog 106 #[.int .i64 a] W fun e w' => e = .returned (.bool ba) ∧ w' = W) := fun W => by rw [hba]; exact implCountRight a W
  have Hcb : Hid (∀ W, Calls Tryz.prog 106 #[.int .i64 b] W fun e w' => e = .returned (.bool bb) ∧ w' = W) := fun W => by rw [hbb]; exact implCountRight b W
  clear hba hbb hbz Hr
  go_enter Tryz.func80, Tryz.ntmps80
  go_wp2_with fail
  refine (Hca.out _).mono ?_
  rintro e w1 ⟨rfl, h⟩
  subst w1
  cases ba with
  | false =>
    go_wp2_with fail
    go_ret
    exact ⟨by rw [Hid.out HR]; rfl, (Below.refl _ _).alloc (Nat.le_refl _) _⟩
  | true =>
    go_wp2_with fail
    refine (Hcb.out _).mono ?_
    rintro e w1 ⟨rfl, h⟩
    subst w1
    cases bb with
    | false =>
      go_wp2_with fail
      go_ret
      exact ⟨by rw [Hid.out HR]; rfl, (Below.refl _ _).alloc (Nat.le_refl _) _⟩
    | true =>
      go_wp2_with fail
      go_ret
      exact ⟨by rw [Hid.out HR]; cases bz <;> rfl, by first | exact (Below.refl _ _).alloc (Nat.le_refl _) _ | exact ((Below.refl _ _).alloc (Nat.le_refl _) _).alloc (by simp) _⟩

theorem isNaN64 (x : Int) (w : World) : Calls Tryz.prog 128 #[.int .i64 x] w fun e w' => e = .returned (.bool false) ∧ w' = w := by
  go_enter Tryz.func128, Tryz.ntmps128
  go_wp2
  go_ret
  exact ⟨by simp, rfl⟩

def cmp64 (x y : Int) : Int := if x < y then -1 else if y < x then 1 else 0

theorem compare64 (x y : Int) (w : World) : Calls Tryz.prog 108 #[.int .i64 x, .int .i64 y] w fun e w' => e = .returned (.int .i64 (cmp64 x y)) ∧ w' = w := by
  obtain ⟨r, Hr⟩ : ∃ r, Hid (r = cmp64 x y) := ⟨_, rfl⟩
  rw [← Hr.out]
  go_enter Tryz.func108, Tryz.ntmps108
  go_wp2_with fail
  refine (isNaN64 _ _).mono ?_
  rintro e w1 ⟨rfl, h⟩
  subst w1
  go_wp2_with fail
  refine (isNaN64 _ _).mono ?_
  rintro e w1 ⟨rfl, h⟩
  subst w1
  by_cases h1 : x < y
  · go_wp2_with fail
    go_ret
    exact ⟨by rw [Hr.out]; simp [cmp64, h1], rfl⟩
  · by_cases h2 : y < x
    · go_wp2_with fail
      go_ret
      exact ⟨by rw [Hr.out]; simp [cmp64, h1, h2], rfl⟩
    · go_wp2_with fail
      go_ret
      exact ⟨by rw [Hr.out]; unfold cmp64; rw [if_neg (by omega), if_neg (by omega)]; rfl, rfl⟩

/-- the first that is not 0, of two -/
def orS (x y : Int) : Int := if x = 0 then y else x

theorem or64 (x y : Int) (b : Nat) (w : World) (hb : b < w.heap.size) (c0 : w.cell? ⟨b, 0, none⟩ = some (.int .i64 x)) (c1 : w.cell? ⟨b, 1, none⟩ = some (.int .i64 y)) :
    Calls Tryz.prog 107 #[.slice (some ⟨b, 0, none⟩) 2 2] w fun e w' => e = .returned (.int .i64 (orS x y)) ∧ w' = w := by
  obtain ⟨r, Hr⟩ : ∃ r, Hid (r = orS x y) := ⟨_, rfl⟩
  rw [← Hr.out]
  go_enter Tryz.func107, Tryz.ntmps107
  go_wp2_with fail
  go_loopw [8] (fun i wr => ∃ k : Nat, k ≤ 2 ∧ i = .int .i64 k ∧ wr = w ∧ (0 < k → x = 0) ∧ (1 < k → y = 0)) (fun i _ => 2 - (intOf i).toNat)
  case atStart => exact ⟨0, by omega, rfl, rfl, by omega, by omega⟩
  case round =>
    obtain ⟨k, hk, rfl, hw, hx, hy⟩ := hrel
    subst hw
    have H : Hid ((0 < k → x = 0) ∧ (1 < k → y = 0)) := ⟨hx, hy⟩
    clear hx hy
    rcases (show k = 0 ∨ k = 1 ∨ k = 2 by omega) with rfl | rfl | rfl
    · by_cases h0 : x = 0
      · subst h0
        go_wp2_with fail
        go_roundw
        case rel => exact ⟨1, by omega, by go_num, trivial, by simp, by omega⟩
        case measure => simp [intOf]
      · have h0' : (x != 0) = true := by simpa using h0
        go_wp2_with fail
        go_ret
        exact ⟨by rw [Hr.out]; simp [orS, h0], rfl⟩
    · have hx := H.out.1 (by omega)
      subst hx
      by_cases h0 : y = 0
      · subst h0
        go_wp2_with fail
        go_roundw
        case rel => exact ⟨2, by omega, by go_num, trivial, by simp, by simp⟩
        case measure => simp [intOf]
      · have h0' : (y != 0) = true := by simpa using h0
        go_wp2_with fail
        go_ret
        exact ⟨by rw [Hr.out]; simp [orS], rfl⟩
    · have hx := H.out.1 (by omega)
      have hy := H.out.2 (by omega)
      subst hx hy
      go_wp2_with fail
      go_ret
      exact ⟨by rw [Hr.out]; simp [orS], rfl⟩

theorem ordS_cmp (a b c d : Int) : orS (cmp64 a c) (cmp64 b d) = ordS (a, b) (c, d) := by
  unfold orS cmp64 ordS
  simp only
  by_cases h1 : a < c
  · simp [h1]
  · by_cases h2 : c < a
    · simp [h1, h2]
    · simp [h1, h2]

theorem third_laid (w : World) (o o' : Obj) (x y : Value) (t : TypeId) : w.heap.size + 1 + 1 < (((w.alloc o).alloc o').alloc (.cells #[x, y] t)).drew.heap.size ∧ (((w.alloc o).alloc o').alloc (.cells #[x, y] t)).drew.cell? ⟨w.heap.size + 1 + 1, 0, none⟩ = some x ∧ (((w.alloc o).alloc o').alloc (.cells #[x, y] t)).drew.cell? ⟨w.heap.size + 1 + 1, 1, none⟩ = some y := by
  have h := box_new ((w.alloc o).alloc o') #[x, y] t
  have hs : ((w.alloc o).alloc o').heap.size = w.heap.size + 1 + 1 := by simp
  rw [hs] at h
  exact ⟨h.1, h.at0, h.at1⟩

end Go.Proofs.YtclcnillnfkjoaaGreatDoor

namespace Go.Proofs.YtclcnillnfkjoaaGreatDoor
open Go.RowKit

def NoneTold (p : List FnM) (w w' : World) (e : Ending) : Prop := ∃ b, e = .returned (.map (some b)) ∧ w.heap.size ≤ b ∧ MapS w' b (jzP p p.length) ∧ Below w.heap.size w w'

theorem opOf_get (c : List (Int × Int)) (k : Nat) (h : k < c.length) : opOf c k = c[k].1 := by simp [opOf, List.getD, h]

theorem fn_code (p : List FnM) (f : Nat) (h : f < p.length) : (fnAt p f).code = p[f].code := by simp [fnAt, List.getD, h]

set_option maxRecDepth 100000 in
set_option maxHeartbeats 3200000 in
theorem implNone {B : Nat} (v : Value) (p : List FnM) (w : World) (hr : FnRow B w v p) (hbk : bulk p ≤ 1048576) :
    Calls Tryz.prog 51 #[.agg #[v]] w fun e w' => NoneTold p w w' e := by
  have Hr : Hid (FnRow B w v p) := hr
  have hlen := hr.len
  have hpl : p.length ≤ 1048576 := by unfold bulk at hbk; omega
  obtain ⟨A, cap, rfl⟩ := hr.form
  clear hr
  have hmm := @run_makeMap Tryz.prog
  have X2 : Hid (Below w.heap.size w ((w.alloc (.cells #[.slice A p.length cap] 25)).alloc (.map #[] 0))) := ((Below.refl _ _).alloc (Nat.le_refl _) _).alloc (by simp) _
  have XM : Hid (MapS ((w.alloc (.cells #[.slice A p.length cap] 25)).alloc (.map #[] 0)) (w.heap.size + 1) []) := ⟨#[], 0, by have := (MapKept.heap_alloc (w.alloc (.cells #[.slice A p.length cap] 25)) (.map #[] 0)).1; simpa using this, rfl, MapKept.stamped_empty 0⟩
  go_enter Tryz.func51, Tryz.ntmps51
  go_wp2_with fail
  clear hmm
  go_loopg [12] (p.length) (fun g i wr => ∃ q : Nat, q ≤ p.length ∧ i = .int .i64 q ∧ p.length ≤ q + g ∧ MapS wr (w.heap.size + 1) (jzP p q) ∧ Below w.heap.size w wr)
  case atStart => exact ⟨0, Nat.zero_le _, rfl, by omega, XM.out, X2.out⟩
  case round =>
    clear XM X2
    rename World => wo
    obtain ⟨q, hq, rfl, hqg, hM, hb⟩ := hrel
    obtain ⟨gO, hgO⟩ : ∃ g, g = gk := ⟨_, rfl⟩
    have HM : Hid (MapS wo (w.heap.size + 1) (jzP p q)) := hM
    have Hb : Hid (Below w.heap.size w wo) := hb
    clear hM hb
    by_cases hql : q < p.length
    · obtain ⟨b0, off0, x, rfl, hlt0', e0', e1', e2', hx⟩ := Hr.out.at q hql
      have hlt0 : b0 < wo.heap.size := Nat.lt_of_lt_of_le hlt0' Hb.out.size
      have e0 := (Hb.out.cell (p := ⟨b0, off0 + q * 3, none⟩) (by exact hlt0')).trans e0'
      have e1 := (Hb.out.cell (p := ⟨b0, off0 + q * 3 + 1, none⟩) (by exact hlt0')).trans e1'
      have e2 := (Hb.out.cell (p := ⟨b0, off0 + q * 3 + 2, none⟩) (by exact hlt0')).trans e2'
      clear hlt0' e0' e1' e2'
      obtain ⟨c, hc⟩ : ∃ c, c = p[q].code := ⟨_, rfl⟩
      have Hc : Hid (c = (fnAt p q).code) := by show c = _; rw [fn_code p q hql]; exact hc
      have hcl : c.length ≤ 1048576 := by have := code_le_bulk p q hql; rw [hc]; omega
      rw [← hc] at hx
      have Hx : Hid (InsRow B w x c) := hx
      obtain ⟨Ac, capc, rfl⟩ := hx.form
      clear hx hc
      have X2 : Hid (Below wo.heap.size wo (wo.alloc (.cells #[.int .i64 p[q].args, .int .i64 p[q].locals, .slice Ac c.length capc] 57))) := (Below.refl _ _).alloc (Nat.le_refl _) _
      go_wp2_with fail
      clear e0 e1 e2
      go_loopg [20] (c.length) (fun g i wr => ∃ k : Nat, k ≤ c.length ∧ i = .int .i64 k ∧ c.length ≤ k + g ∧ MapS wr (w.heap.size + 1) (jzP p q ++ jzC q c k) ∧ Below w.heap.size w wr)
      case atStart => exact ⟨0, Nat.zero_le _, rfl, by omega, by rw [show jzC q c 0 = [] from rfl, List.append_nil]; exact HM.out.below X2.out, Hb.out.trans (X2.out.mono Hb.out.size)⟩
      case round =>
        clear X2
        obtain ⟨k, hk, rfl, hkg, hM, hb⟩ := hrel
        have HM2 : Hid (MapS wr (w.heap.size + 1) (jzP p q ++ jzC q c k)) := hM
        have Hb2 : Hid (Below w.heap.size w wr) := hb
        clear hM hb
        by_cases hkl : k < c.length
        · obtain ⟨bc, offc, rfl, hltc, d0, d1⟩ := (Hx.out.below Hb2.out).at k hkl
          obtain ⟨op, a, hop⟩ : ∃ op a, c[k] = (op, a) := ⟨_, _, rfl⟩
          rw [hop] at d0 d1
          have Hop : Hid (opOf c k = op) := by show opOf c k = op; rw [opOf_get c k hkl, hop]
          clear hop
          by_cases h31 : op = 31
          · subst h31
            have hal : Below wr.heap.size wr (wr.alloc (.cells #[.int .i64 31, .int .i64 a] 59)) := (Below.refl _ _).alloc (Nat.le_refl _) _
            obtain ⟨es, clock, hup, hM'⟩ := (HM2.out.below hal).update ((q : Int), (k : Int)) (0, 0)
            have hup' : (Instr.mapUpdate 88 (.map (some (w.heap.size + 1))) (.agg #[.int .i64 (q : Int), .int .i64 (k : Int)]) (.agg #[.int .i64 0, .int .i64 0])).run Tryz.prog (wr.alloc (.cells #[.int .i64 31, .int .i64 a] 59)) = .ok () (ChangeMaps.setBlock (wr.alloc (.cells #[.int .i64 31, .int .i64 a] 59)) (w.heap.size + 1) (.map es clock)) := hup
            rw [Hc.out, put_jz p q k (by rw [← Hc.out]; exact Hop.out), ← Hc.out] at hM'
            have HM3 : Hid (MapS (ChangeMaps.setBlock (wr.alloc (.cells #[.int .i64 31, .int .i64 a] 59)) (w.heap.size + 1) (.map es clock)) (w.heap.size + 1) (jzP p q ++ jzC q c (k + 1))) := hM'
            have Hb3 : Hid (Below w.heap.size w (ChangeMaps.setBlock (wr.alloc (.cells #[.int .i64 31, .int .i64 a] 59)) (w.heap.size + 1) (.map es clock))) := below_setBlock (Hb2.out.trans (hal.mono Hb2.out.size)) (by omega) _
            clear hup hM' hal
            go_wp2_with fail
            go_roundg (gk - 1)
            case measure => omega
            case rel => exact ⟨k + 1, by omega, by go_num, by omega, HM3.out, Hb3.out⟩
          · have h31' : (op == 31) = false := by simpa using h31
            have hal : Below wr.heap.size wr (wr.alloc (.cells #[.int .i64 op, .int .i64 a] 59)) := (Below.refl _ _).alloc (Nat.le_refl _) _
            have HM3 : Hid (MapS (wr.alloc (.cells #[.int .i64 op, .int .i64 a] 59)) (w.heap.size + 1) (jzP p q ++ jzC q c (k + 1))) := by
              show MapS _ _ (jzP p q ++ jzC q c (k + 1))
              rw [Hc.out, skip_jz p q k (by rw [← Hc.out, Hop.out]; exact h31), ← Hc.out]
              exact HM2.out.below hal
            have Hb3 : Hid (Below w.heap.size w (wr.alloc (.cells #[.int .i64 op, .int .i64 a] 59))) := Hb2.out.trans (hal.mono Hb2.out.size)
            clear hal
            go_wp2_with fail
            go_roundg (gk - 1)
            case measure => omega
            case rel => exact ⟨k + 1, by omega, by go_num, by omega, HM3.out, Hb3.out⟩
        · have HM3 : Hid (MapS wr (w.heap.size + 1) (jzP p (q + 1))) := by
            show MapS _ _ (jzP p q ++ jzC q (fnAt p q).code (fnAt p q).code.length)
            rw [← Hc.out, ← show k = c.length by omega]
            exact HM2.out
          go_wp2_with fail
          go_roundg (gO - 1)
          case measure => omega
          case rel => exact ⟨q + 1, by omega, by go_num, by omega, HM3.out, Hb2.out⟩
    · have HM3 : Hid (MapS wo (w.heap.size + 1) (jzP p p.length)) := by
        show MapS _ _ (jzP p p.length)
        rw [← show q = p.length by omega]
        exact HM.out
      go_wp2_with fail
      go_ret
      exact ⟨_, rfl, by omega, HM3.out, Hb.out⟩
end Go.Proofs.YtclcnillnfkjoaaGreatDoor
