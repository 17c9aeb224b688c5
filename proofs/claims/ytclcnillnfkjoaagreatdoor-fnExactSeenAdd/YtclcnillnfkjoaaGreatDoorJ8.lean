/- impl.verifyFunc. impl.Verify, impl.inRight. impl.Heights. -/
import Derived.Test.YtclcnillnfkjoaaGreatDoorFindW
import Derived.Test.YtclcnillnfkjoaaGreatDoorSpecHd
import Derived.Laws.OwnMore
namespace Go.Proofs.YtclcnillnfkjoaaGreatDoor
open Go.RowKit

/-- what verifyFunc tells of function f -/
def FuncTold (p : List FnM) (f : Nat) (w w' : World) (e : Ending) : Prop :=
  ∃ F A C : Int, e = .returned (.agg #[.int .i64 F, .int .i64 A, .int .i64 C]) ∧ Below w.heap.size w w' ∧ (C = 0 → formOk (fnAt p f) = true ∧ F = 0 ∧ A = 0) ∧ (C ≠ 0 → F = f) ∧ (ArgsUp p → FuncIs p f A C)

theorem insAt_get (c : List (Int × Int)) (k : Nat) (h : k < c.length) : insAt c k = c[k] := by simp [insAt, List.getD, h]

set_option maxRecDepth 100000 in
set_option maxHeartbeats 3200000 in
theorem implFunc (v : Value) (p : List FnM) (f : Nat) (w : World) (ht : Tab w) (hr : FnRow 0 w v p) (hf : f < p.length) :
    Calls Tryz.prog 63 #[.agg #[v], .int .i64 f] w fun e w' => FuncTold p f w w' e := by
  have Hr : Hid (FnRow 0 w v p) := hr
  have Ht : Hid (Tab w) := ht
  have hlen := hr.len
  obtain ⟨A, cap, rfl⟩ := hr.form
  obtain ⟨b0, off0, x, rfl, hlt0, e0, e1, e2, hx⟩ := hr.at f hf
  have hfn : fnAt p f = p[f] := fnAt_nat p f hf
  have Hfn : Hid (fnAt p f = p[f]) := hfn
  have Hx : Hid (InsRow 0 w x p[f].code) := hx
  obtain ⟨Ac, capc, rfl⟩ := hx.form
  have hcl : p[f].code.length ≤ 9223372036854775807 := by obtain ⟨_, _, _, h, _⟩ := hx; exact h
  clear hr ht hx hfn
  obtain ⟨x0, x1, x2⟩ := boxes_new w #[.slice (some ⟨b0, off0, none⟩) p.length cap] #[.int .i64 0, .int .i64 0, .int .i64 0] 25 52
  have y1 := vrow_new (w.alloc (.cells #[.slice (some ⟨b0, off0, none⟩) p.length cap] 25)) #[.int .i64 0, .int .i64 0, .int .i64 0] 52
  rw [show (w.alloc (.cells #[.slice (some ⟨b0, off0, none⟩) p.length cap] 25)).heap.size = w.heap.size + 1 by simp] at y1
  have X0 : Hid (Box _ _ _) := x0
  have X1 : Hid (VRow _ (w.heap.size + 1) (ints [0, 0, 0])) := y1
  have X2 : Hid (Below _ _ _) := x2
  clear x0 x1 x2 y1
  go_enter Tryz.func63, Tryz.ntmps63
  go_wp2_with fail
  refine (implSizes _ _ _ p[f].code _ (Hx.out.below X2.out)).mono ?_
  rintro e w1 ⟨rfl, hb1⟩
  have Hb1 : Hid (Below w.heap.size w w1) := X2.out.trans (hb1.mono X2.out.size)
  have HB : Hid (Box w1 w.heap.size #[.slice (some ⟨b0, off0, none⟩) p.length cap]) := X0.out.below hb1
  have HV : Hid (VRow w1 (w.heap.size + 1) (ints [0, 0, 0])) := X1.out.below hb1
  clear hb1 X0 X1 X2
  by_cases hform : formOk p[f] = true
  · have hform' : formOk ⟨p[f].args, p[f].locals, p[f].code⟩ = true := hform
    rw [hform']
    have hn1 : 1 ≤ p[f].code.length ∧ p[f].code.length ≤ 60 := by simp [formOk] at hform; omega
    have Hform : Hid (formOk (fnAt p f) = true) := by rw [Hfn.out]; exact hform
    clear hform hform'
    have c0 := HB.out.at0
    have cz := HB.out.1
    obtain ⟨e0', e1', e2'⟩ : w1.cell? ⟨b0, off0 + f * 3, none⟩ = some (.int .i64 p[f].args) ∧ w1.cell? ⟨b0, off0 + f * 3 + 1, none⟩ = some (.int .i64 p[f].locals) ∧ w1.cell? ⟨b0, off0 + f * 3 + 2, none⟩ = some (.slice Ac p[f].code.length capc) :=
      ⟨by rw [Hb1.out.cell (by exact hlt0)]; exact e0, by rw [Hb1.out.cell (by exact hlt0)]; exact e1, by rw [Hb1.out.cell (by exact hlt0)]; exact e2⟩
    clear e0 e1 e2
    obtain ⟨c, hc⟩ : ∃ c, c = p[f].code := ⟨_, rfl⟩
    have Hc : Hid (c = (fnAt p f).code) := by rw [Hfn.out]; exact hc
    rw [← hc] at e2' Hx hn1 hcl ⊢
    have Hcf : Hid (c = p[f].code) := hc
    clear hc
    go_wp2_with fail
    clear c0 cz e0' e1' e2'
    go_loopg [26] (c.length) (fun g i wr => ∃ k : Nat, k ≤ c.length ∧ i = .int .i64 k ∧ c.length ≤ k + g ∧ Box wr w.heap.size #[.slice (some ⟨b0, off0, none⟩) p.length cap] ∧ VRow wr (w.heap.size + 1) (ints [0, 0, 0]) ∧ Below w.heap.size w wr ∧ ∀ j, j < k → rightM p f (insAt c j).1 (insAt c j).2 = true)
    case atStart => exact ⟨0, Nat.zero_le _, rfl, by omega, HB.out, HV.out, Hb1.out, fun j h => by omega⟩
    case round =>
      clear HB HV Hb1
      obtain ⟨k, hk, rfl, hkg, hB, hV, hb, hall⟩ := hrel
      have HB : Hid (Box wr w.heap.size #[.slice (some ⟨b0, off0, none⟩) p.length cap]) := hB
      have HV : Hid (VRow wr (w.heap.size + 1) (ints [0, 0, 0])) := hV
      have Hb : Hid (Below w.heap.size w wr) := hb
      have Hall : Hid (∀ j, j < k → rightM p f (insAt c j).1 (insAt c j).2 = true) := hall
      have c0 := hB.at0
      have cz := hB.1
      clear hB hV hb hall
      by_cases hkl : k < c.length
      · obtain ⟨bc, offc, rfl, hltc, d0, d1⟩ := (Hx.out.below Hb.out).at k hkl
        obtain ⟨op, a, hop⟩ : ∃ op a, insAt c k = (op, a) := ⟨_, _, rfl⟩
        have hcK : c[k] = (op, a) := by rw [← hop, insAt_get c k hkl]
        rw [hcK] at d0 d1
        have Hop : Hid (insAt c k = (op, a)) := hop
        clear hop hcK
        go_wp2_with fail
        have hal : Below wr.heap.size wr (wr.alloc (.cells #[.int .i64 op, .int .i64 a] 59)) := (Below.refl _ _).alloc (Nat.le_refl _) _
        have hal2 := Hb.out.trans (hal.mono Hb.out.size)
        refine (implRight _ p f op a _ (Ht.out.below hal2) (Hr.out.below hal2)).mono ?_
        rintro e w2 ⟨rfl, hb2⟩
        have hb2' := hal.trans (hb2.mono hal.size)
        have HB2 : Hid (Box w2 w.heap.size #[.slice (some ⟨b0, off0, none⟩) p.length cap]) := HB.out.below hb2'
        have HV2 : Hid (VRow w2 (w.heap.size + 1) (ints [0, 0, 0])) := HV.out.below hb2'
        have Hb2 : Hid (Below w.heap.size w w2) := Hb.out.trans (hb2'.mono Hb.out.size)
        clear hal hal2 hb2 hb2' d0 d1 c0 cz HB HV
        by_cases hrt : rightM p f op a = true
        · rw [hrt]
          have Hrt : Hid (rightM p f (insAt c k).1 (insAt c k).2 = true) := by rw [Hop.out]; exact hrt
          clear hrt
          go_wp2_with fail
          go_roundg (gk - 1)
          case measure => omega
          case rel => exact ⟨k + 1, by omega, by go_num, by omega, HB2.out, HV2.out, Hb2.out, fun j hj => if e : j = k then by subst e; exact Hrt.out else Hall.out j (by omega)⟩
        · have hrt' : rightM p f op a = false := by simpa using hrt
          rw [hrt']
          have HF : Hid (FuncIs p f k 1) := by
            have := FuncIs.ins (p := p) (f := f) k Hform.out (by rw [← Hc.out]; exact hkl) (by rw [← Hc.out, Hop.out]; exact hrt') (fun j hj => by rw [← Hc.out]; exact Hall.out j hj)
            exact this
          clear hrt hrt'
          obtain ⟨r0, q0⟩ := HV2.out.int 0 (by simp)
          obtain ⟨r1, q1⟩ := HV2.out.int 1 (by simp)
          obtain ⟨r2, q2⟩ := HV2.out.int 2 (by simp)
          have rz := HV2.out.1
          simp at r0 r1 r2
          go_wp2_with fail
          have HZ : Hid (VRow (((w2.setCell ⟨w.heap.size + 1, 0, none⟩ (.int .i64 f)).setCell ⟨w.heap.size + 1, 1, none⟩ (.int .i64 k)).setCell ⟨w.heap.size + 1, 2, none⟩ (.int .i64 1)) (w.heap.size + 1) (ints [f, k, 1])) := HV2.out.put3 _ _ _
          exact bodyPost_ret (v := .agg #[.int .i64 f, .int .i64 k, .int .i64 1]) (by simp [results, Tryz.results63, go_sem, HZ.out.at0, HZ.out.at1, HZ.out.at2]) rfl
            ⟨f, k, 1, rfl, below_put3 Hb2.out _ _ _ (by omega), fun h => by omega, fun _ => rfl, fun _ => HF.out⟩
      · have HA : Hid (∀ j, j < c.length → rightM p f (insAt c j).1 (insAt c j).2 = true) := fun j hj => Hall.out j (by omega)
        have hfi := implFind (.slice (some ⟨b0, off0, none⟩) p.length cap) p f wr (Ht.out.below Hb.out) (Hr.out.below Hb.out) hf (by rw [← Hcf.out]; exact hn1.1) (by rw [← Hcf.out]; exact hn1.2)
          (by rw [← Hcf.out]; exact goesTo_range (p := p) (f := f) Hc.out HA.out)
        rw [← Hcf.out] at hfi
        have Hfi : Hid (Calls Tryz.prog 94 #[.agg #[.slice (some ⟨b0, off0, none⟩) p.length cap], .int .i64 f] wr fun e w' => FoundIs p c wr w' e) := hfi
        clear hfi
        go_wp2_with fail
        refine Calls.mono (R := fun e w' => FoundIs p c wr w' e) Hfi.out ?_
        rintro e w2 ⟨Bm, at', code, rfl, hb2, hcase⟩
        have HV2 : Hid (VRow w2 (w.heap.size + 1) (ints [0, 0, 0])) := HV.out.below hb2
        have Hb2 : Hid (Below w.heap.size w w2) := Hb.out.trans (hb2.mono Hb.out.size)
        clear hb2 c0 cz HB HV
        obtain ⟨r0, q0⟩ := HV2.out.int 0 (by simp)
        obtain ⟨r1, q1⟩ := HV2.out.int 1 (by simp)
        obtain ⟨r2, q2⟩ := HV2.out.int 2 (by simp)
        have rz := HV2.out.1
        simp at r0 r1 r2
        rcases hcase with ⟨rfl, s, _, _, hrun⟩ | ⟨hne, a, rfl, hrun⟩
        · have HF : Hid (ArgsUp p → FuncIs p f 0 0) := fun hp => FuncIs.ok _ Hform.out (by rw [← Hc.out]; exact HA.out) (by rw [← Hc.out]; exact (hrun hp).1)
          clear hrun
          go_wp2_with fail
          have HZ : Hid (VRow (((w2.setCell ⟨w.heap.size + 1, 0, none⟩ (.int .i64 0)).setCell ⟨w.heap.size + 1, 1, none⟩ (.int .i64 0)).setCell ⟨w.heap.size + 1, 2, none⟩ (.int .i64 0)) (w.heap.size + 1) (ints [0, 0, 0])) := HV2.out.put3 _ _ _
          exact bodyPost_ret (v := .agg #[.int .i64 0, .int .i64 0, .int .i64 0]) (by simp [results, Tryz.results63, go_sem, HZ.out.at0, HZ.out.at1, HZ.out.at2]) rfl
            ⟨0, 0, 0, rfl, below_put3 Hb2.out _ _ _ (by omega), fun _ => ⟨Hform.out, rfl, rfl⟩, fun h => absurd rfl h, HF.out⟩
        · have HF : Hid (ArgsUp p → FuncIs p f a code) := fun hp => FuncIs.fault a code Hform.out (by rw [← Hc.out]; exact HA.out) (by rw [← Hc.out]; exact hrun hp)
          have hne' : (code != 0) = true := by simpa using hne
          clear hrun
          go_wp2_with fail
          have HZ : Hid (VRow (((w2.setCell ⟨w.heap.size + 1, 0, none⟩ (.int .i64 f)).setCell ⟨w.heap.size + 1, 1, none⟩ (.int .i64 a)).setCell ⟨w.heap.size + 1, 2, none⟩ (.int .i64 code)) (w.heap.size + 1) (ints [f, a, code])) := HV2.out.put3 _ _ _
          exact bodyPost_ret (v := .agg #[.int .i64 f, .int .i64 a, .int .i64 code]) (by simp [results, Tryz.results63, go_sem, HZ.out.at0, HZ.out.at1, HZ.out.at2]) rfl
            ⟨f, a, code, rfl, below_put3 Hb2.out _ _ _ (by omega), fun h => absurd h hne, fun _ => rfl, HF.out⟩
  · have hform' : formOk ⟨p[f].args, p[f].locals, p[f].code⟩ = false := by simpa using hform
    rw [hform']
    have HF : Hid (FuncIs p f 0 1) := FuncIs.form (by rw [Hfn.out]; exact hform')
    clear hform hform'
    obtain ⟨r0, q0⟩ := HV.out.int 0 (by simp)
    obtain ⟨r1, q1⟩ := HV.out.int 1 (by simp)
    obtain ⟨r2, q2⟩ := HV.out.int 2 (by simp)
    have rz := HV.out.1
    simp at r0 r1 r2
    go_wp2_with fail
    have HZ : Hid (VRow (((w1.setCell ⟨w.heap.size + 1, 0, none⟩ (.int .i64 f)).setCell ⟨w.heap.size + 1, 1, none⟩ (.int .i64 0)).setCell ⟨w.heap.size + 1, 2, none⟩ (.int .i64 1)) (w.heap.size + 1) (ints [f, 0, 1])) := HV.out.put3 _ _ _
    exact bodyPost_ret (v := .agg #[.int .i64 f, .int .i64 0, .int .i64 1]) (by simp [results, Tryz.results63, go_sem, HZ.out.at0, HZ.out.at1, HZ.out.at2]) rfl
      ⟨f, 0, 1, rfl, below_put3 Hb1.out _ _ _ (by omega), fun h => by omega, fun _ => rfl, fun _ => HF.out⟩
end Go.Proofs.YtclcnillnfkjoaaGreatDoor

namespace Go.Proofs.YtclcnillnfkjoaaGreatDoor
open Go.RowKit

def VerTold (p : List FnM) (w w' : World) (e : Ending) : Prop :=
  ∃ F A C : Int, e = .returned (.agg #[.int .i64 F, .int .i64 A, .int .i64 C]) ∧ Below w.heap.size w w' ∧ (C = 0 → ∀ g, g < p.length → formOk (fnAt p g) = true) ∧ (ArgsUp p → VerifyIs p F A C)

theorem argsUp_of_form {p : List FnM} (h : ∀ g, g < p.length → formOk (fnAt p g) = true) : ArgsUp p := by
  intro g hg
  obtain ⟨k, hk, rfl⟩ := List.getElem_of_mem hg
  have := h k hk
  rw [fnAt_nat p k hk] at this
  simp [formOk] at this
  omega

set_option maxRecDepth 100000 in
set_option maxHeartbeats 3200000 in
theorem implVerify (v : Value) (p : List FnM) (w : World) (ht : Tab w) (hr : FnRow 0 w v p) :
    Calls Tryz.prog 26 #[.agg #[v]] w fun e w' => VerTold p w w' e := by
  have Hr : Hid (FnRow 0 w v p) := hr
  have Ht : Hid (Tab w) := ht
  have hlen := hr.len
  obtain ⟨A, cap, rfl⟩ := hr.form
  clear hr ht
  obtain ⟨x0, x1, x2⟩ := boxes_new w #[.slice A p.length cap] #[.int .i64 0, .int .i64 0, .int .i64 0] 25 52
  have y1 := vrow_new (w.alloc (.cells #[.slice A p.length cap] 25)) #[.int .i64 0, .int .i64 0, .int .i64 0] 52
  rw [show (w.alloc (.cells #[.slice A p.length cap] 25)).heap.size = w.heap.size + 1 by simp] at y1
  have X0 : Hid (Box _ w.heap.size #[.slice A p.length cap]) := x0
  have X1 : Hid (VRow _ (w.heap.size + 1) (ints [0, 0, 0])) := y1
  have X2 : Hid (Below _ _ _) := x2
  clear x0 x1 x2 y1
  obtain ⟨n, Hn⟩ : ∃ n, Hid (n = p.length) := ⟨_, rfl⟩
  rw [← Hn.out] at hlen X0 X1 X2 Hr ⊢
  by_cases hn0 : n < 1
  · have HF : Hid (VerifyIs p 0 0 1) := .form (by rw [← Hn.out]; omega)
    have Hno : Hid (∀ o o', Below w.heap.size w ((w.alloc o).alloc o')) := fun o o' => ((Below.refl _ _).alloc (Nat.le_refl _) _).alloc (by simp) _
    have hn0' : (n : Int) < 1 := by omega
    clear X0 X1 X2
    go_enter Tryz.func26, Tryz.ntmps26
    go_wp2_with fail
    exact bodyPost_ret (v := .agg #[.int .i64 0, .int .i64 0, .int .i64 1]) (by simp [results, Tryz.results26, go_sem]) rfl
      ⟨0, 0, 1, rfl, Hno.out _ _, fun h => by omega, fun _ => HF.out⟩
  · have hn0' : decide ((n : Int) < 1) = false := by simp; omega
    by_cases hn6 : 6 < n
    · have HF : Hid (VerifyIs p 0 0 1) := .form (by rw [← Hn.out]; omega)
      have Hno : Hid (∀ o o', Below w.heap.size w ((w.alloc o).alloc o')) := fun o o' => ((Below.refl _ _).alloc (Nat.le_refl _) _).alloc (by simp) _
      have hn6' : (6 : Int) < n := by omega
      clear X0 X1 X2
      go_enter Tryz.func26, Tryz.ntmps26
      go_wp2_with fail
      exact bodyPost_ret (v := .agg #[.int .i64 0, .int .i64 0, .int .i64 1]) (by simp [results, Tryz.results26, go_sem]) rfl
        ⟨0, 0, 1, rfl, Hno.out _ _, fun h => by omega, fun _ => HF.out⟩
    · have hn6' : decide ((6 : Int) < n) = false := by simp; omega
      go_enter Tryz.func26, Tryz.ntmps26
      go_wp2_with fail
      go_loopg [19] n (fun g i wr => ∃ k : Nat, k ≤ n ∧ i = .int .i64 k ∧ n ≤ k + g ∧ Box wr w.heap.size #[.slice A n cap] ∧ VRow wr (w.heap.size + 1) (ints [0, 0, 0]) ∧ Below w.heap.size w wr ∧ (∀ j, j < k → formOk (fnAt p j) = true) ∧ (ArgsUp p → ∀ j, j < k → FuncIs p j 0 0))
      case atStart => exact ⟨0, Nat.zero_le _, rfl, by omega, X0.out, X1.out, X2.out, fun j h => by omega, fun _ j h => by omega⟩
      case round =>
        clear X0 X1 X2 hn0' hn6'
        obtain ⟨k, hk, rfl, hkg, hB, hV, hb, hall, hall2⟩ := hrel
        have HB : Hid (Box wr w.heap.size #[.slice A n cap]) := hB
        have HV : Hid (VRow wr (w.heap.size + 1) (ints [0, 0, 0])) := hV
        have Hb : Hid (Below w.heap.size w wr) := hb
        have Hall : Hid ((∀ j, j < k → formOk (fnAt p j) = true) ∧ (ArgsUp p → ∀ j, j < k → FuncIs p j 0 0)) := ⟨hall, hall2⟩
        have c0 := hB.at0
        have cz := hB.1
        clear hB hV hb hall hall2
        by_cases hkl : k < n
        · have hfi := implFunc (.slice A n cap) p k wr (Ht.out.below Hb.out) (Hr.out.below Hb.out) (by rw [← Hn.out]; exact hkl)
          have Hfi : Hid (Calls Tryz.prog 63 #[.agg #[.slice A n cap], .int .i64 k] wr fun e w' => FuncTold p k wr w' e) := hfi
          clear hfi
          go_wp2_with fail
          refine Calls.mono (R := fun e w' => FuncTold p k wr w' e) Hfi.out ?_
          rintro e w2 ⟨F, A2, C, rfl, hb2, hz, hne, his⟩
          have HB2 : Hid (Box w2 w.heap.size #[.slice A n cap]) := HB.out.below hb2
          have HV2 : Hid (VRow w2 (w.heap.size + 1) (ints [0, 0, 0])) := HV.out.below hb2
          have Hb2 : Hid (Below w.heap.size w w2) := Hb.out.trans (hb2.mono Hb.out.size)
          clear hb2 c0 cz HB HV Hfi
          by_cases hC : C = 0
          · subst hC
            obtain ⟨hf0, rfl, rfl⟩ := hz rfl
            have Hf0 : Hid (formOk (fnAt p k) = true ∧ (ArgsUp p → FuncIs p k 0 0)) := ⟨hf0, his⟩
            clear hz hne his hf0
            go_wp2_with fail
            go_roundg (gk - 1)
            case measure => omega
            case rel =>
              have hal : Below w2.heap.size w2 (w2.alloc (.cells #[.int .i64 0, .int .i64 0, .int .i64 0] 52)) := (Below.refl _ _).alloc (Nat.le_refl _) _
              exact ⟨k + 1, by omega, by go_num, by omega, HB2.out.below hal, HV2.out.below hal, Hb2.out.trans (hal.mono Hb2.out.size), fun j hj => if e : j = k then by subst e; exact Hf0.out.1 else Hall.out.1 j (by omega),
                fun hp j hj => if e : j = k then by subst e; exact Hf0.out.2 hp else Hall.out.2 hp j (by omega)⟩
          · have hF := hne hC
            subst hF
            have hC' : (C != 0) = true := by simpa using hC
            have HF : Hid (ArgsUp p → VerifyIs p k A2 C) := fun hp => .fault k A2 C (by rw [← Hn.out]; omega) (by rw [← Hn.out]; omega) (by rw [← Hn.out]; exact hkl) (Hall.out.2 hp) (his hp) hC
            clear hz hne his
            obtain ⟨r0, q0⟩ := HV2.out.int 0 (by simp)
            obtain ⟨r1, q1⟩ := HV2.out.int 1 (by simp)
            obtain ⟨r2, q2⟩ := HV2.out.int 2 (by simp)
            have rz := HV2.out.1
            simp at r0 r1 r2
            go_wp2_with fail
            have HZ : Hid (VRow ((((w2.setCell ⟨w.heap.size + 1, 0, none⟩ (.int .i64 k)).setCell ⟨w.heap.size + 1, 1, none⟩ (.int .i64 A2)).setCell ⟨w.heap.size + 1, 2, none⟩ (.int .i64 C)).alloc (.cells #[.int .i64 k, .int .i64 A2, .int .i64 C] 52)) (w.heap.size + 1) (ints [k, A2, C])) := (HV2.out.put3 _ _ _).below ((Below.refl _ _).alloc (Nat.le_refl _) _)
            have hbz := below_put3 (g := w.heap.size + 1) Hb2.out (.int .i64 k) (.int .i64 A2) (.int .i64 C) (by omega)
            exact bodyPost_ret (v := .agg #[.int .i64 k, .int .i64 A2, .int .i64 C]) (by simp [results, Tryz.results26, go_sem, HZ.out.at0, HZ.out.at1, HZ.out.at2]) rfl
              ⟨k, A2, C, rfl, hbz.alloc hbz.size _, fun h => absurd h hC, HF.out⟩
        · have HA : Hid (∀ g, g < p.length → formOk (fnAt p g) = true) := fun g hg => Hall.out.1 g (by rw [← Hn.out] at hg; omega)
          have HF : Hid (ArgsUp p → VerifyIs p 0 0 0) := fun hp => .ok (by rw [← Hn.out]; omega) (by rw [← Hn.out]; omega) (fun g hg => Hall.out.2 hp g (by rw [← Hn.out] at hg; omega))
          obtain ⟨r0, q0⟩ := HV.out.int 0 (by simp)
          obtain ⟨r1, q1⟩ := HV.out.int 1 (by simp)
          obtain ⟨r2, q2⟩ := HV.out.int 2 (by simp)
          have rz := HV.out.1
          simp at r0 r1 r2
          go_wp2_with fail
          have HZ : Hid (VRow (((wr.setCell ⟨w.heap.size + 1, 0, none⟩ (.int .i64 0)).setCell ⟨w.heap.size + 1, 1, none⟩ (.int .i64 0)).setCell ⟨w.heap.size + 1, 2, none⟩ (.int .i64 0)) (w.heap.size + 1) (ints [0, 0, 0])) := HV.out.put3 _ _ _
          exact bodyPost_ret (v := .agg #[.int .i64 0, .int .i64 0, .int .i64 0]) (by simp [results, Tryz.results26, go_sem, HZ.out.at0, HZ.out.at1, HZ.out.at2]) rfl
            ⟨0, 0, 0, rfl, below_put3 Hb.out _ _ _ (by omega), fun _ => HA.out, HF.out⟩

theorem verTold_right {p : List FnM} {F A C : Int} (h1 : C = 0 → ∀ g, g < p.length → formOk (fnAt p g) = true) (h2 : ArgsUp p → VerifyIs p F A C) : C = 0 ↔ RightP p := by
  constructor
  · intro hc
    subst hc
    have hv := h2 (argsUp_of_form (h1 rfl))
    obtain ⟨a, b, c⟩ := hv.all rfl
    exact .ok a b c
  · intro hr
    have hp : ArgsUp p := fun g hg => by have := hr.args g hg; omega
    exact ((h2 hp).unique hr).2.2

theorem fieldCode (a b c : Int) (W : World) : (Instr.field 52 (.agg #[.int .i64 a, .int .i64 b, .int .i64 c]) 2).run Tryz.prog W = .ok (.int .i64 c) W := by kernel_rfl

end Go.Proofs.YtclcnillnfkjoaaGreatDoor

namespace Go.Proofs.YtclcnillnfkjoaaGreatDoor
open Go.RowKit

/-- the heights that are told of function f -/
def AnsIs (p : List FnM) (f : Int) (hs : List Int) : Prop :=
  (RightP p ∧ inL f p.length = true ∧ HRun p (fnAt p f).code (startH (fnAt p f).code.length) (.inl hs)) ∨ (¬ (RightP p ∧ inL f p.length = true) ∧ hs = [])

theorem AnsIs.unique {p : List FnM} {f : Int} {hs hs' : List Int} (h : AnsIs p f hs) (k : AnsIs p f hs') : hs = hs' := by
  rcases h with ⟨a, b, c⟩ | ⟨a, b⟩
  · rcases k with ⟨_, _, c'⟩ | ⟨a', _⟩
    · have := c.unique c'
      simpa using this
    · exact absurd ⟨a, b⟩ a'
  · rcases k with ⟨a', b', _⟩ | ⟨_, b'⟩
    · exact absurd ⟨a', b'⟩ a
    · rw [b, b']

/-- a slice of numbers in memory of the call's own -/
def OwnV (B : Nat) (w : World) (v : Value) (zs : List Int) : Prop := ∃ A cap, v = .slice A zs.length cap ∧ zs.length ≤ 1048576 ∧ (zs = [] ∨ ∃ b, A = some ⟨b, 0, none⟩ ∧ B ≤ b ∧ VRow w b (ints zs))

theorem OwnV.nil (B : Nat) (w : World) (A : Option Addr) (cap : Nat) : OwnV B w (.slice A 0 cap) [] := ⟨A, cap, rfl, by simp, .inl rfl⟩
theorem OwnV.below {B : Nat} {w w' : World} {v : Value} {zs : List Int} (h : OwnV B w v zs) (hb : Below w.heap.size w w') : OwnV B w' v zs := by
  obtain ⟨A, cap, h1, h2, h3⟩ := h
  refine ⟨A, cap, h1, h2, h3.imp id ?_⟩
  rintro ⟨b, e1, e2, e3⟩
  exact ⟨b, e1, e2, e3.below hb⟩
theorem OwnV.lower {B B' : Nat} {w : World} {v : Value} {zs : List Int} (h : OwnV B w v zs) (hB : B' ≤ B) : OwnV B' w v zs := by
  obtain ⟨A, cap, h1, h2, h3⟩ := h
  refine ⟨A, cap, h1, h2, h3.imp id ?_⟩
  rintro ⟨b, e1, e2, e3⟩
  exact ⟨b, e1, Nat.le_trans hB e2, e3⟩
theorem OwnV.form {B : Nat} {w : World} {v : Value} {zs : List Int} (h : OwnV B w v zs) : ∃ A cap, v = .slice A zs.length cap := let ⟨A, cap, h, _⟩ := h; ⟨A, cap, h⟩

/-- .. and how -/
def HeiTold (p : List FnM) (f : Int) (w w' : World) (e : Ending) : Prop := ∃ u hs, e = .returned u ∧ OwnV w.heap.size w' u hs ∧ AnsIs p f hs ∧ Below w.heap.size w w'

theorem hsOf_get {n : Nat} {s : IS} (hl : s.m.length = n) (k : Nat) (hk : k < n) : (hsOf n s).h.getD k 0 = (s.m.getD k none).getD (-1) := hsOf_getD hl k hk

theorem all_same {zs hs : List Int} (hl : zs.length = hs.length) (h : ∀ j, j < zs.length → zs.getD j 0 = hs.getD j 0) : zs = hs := by
  apply List.ext_getElem hl
  intro j h1 h2
  have := h j h1
  simpa [List.getD, h1, h2] using this

end Go.Proofs.YtclcnillnfkjoaaGreatDoor
