/- impl.verifyFunc. -/
import Derived.Test.YtijgonjnmibifaaGreatDoorFindW
import Derived.Test.YtijgonjnmibifaaGreatDoorSpecHd
namespace Go.Proofs.YtijgonjnmibifaaGreatDoor
open Go.RowKit

/-- what verifyFunc tells of function f -/
def FuncTold (p : List FnM) (f : Nat) (w w' : World) (e : Ending) : Prop :=
  ∃ F A C : Int, e = .returned (.agg #[.int .i64 F, .int .i64 A, .int .i64 C]) ∧ Below w.heap.size w w' ∧ (C = 0 → formOk (fnAt p f) = true ∧ F = 0 ∧ A = 0) ∧ (C ≠ 0 → F = f) ∧ (ArgsUp p → FuncIs p f A C)

theorem insAt_get (c : List (Int × Int)) (k : Nat) (h : k < c.length) : insAt c k = c[k] := by simp [insAt, List.getD, h]

set_option maxRecDepth 100000 in
set_option maxHeartbeats 3200000 in
theorem implFunc (v : Value) (p : List FnM) (f : Nat) (w : World) (ht : Tab w) (hr : FnRow 0 w v p) (hf : f < p.length) :
    Calls Tryz.prog 124 #[.agg #[v], .int .i64 f] w fun e w' => FuncTold p f w w' e := by
  have Hr : Hid (FnRow 0 w v p) := hr
  have Ht : Hid (Tab w) := ht
  have hlen := hr.len
  obtain ⟨A, cap, rfl⟩ := hr.form
  obtain ⟨b0, off0, x, rfl, hlt0, e0, e1, e2, hx⟩ := hr.at f hf
  have hfn : fnAt p f = p[f] := fnAt_nat p f hf
  have Hfn : Hid (fnAt p f = p[f]) := hfn
  have Hx : Hid (InsRow 0 w x p[f].code) := hx
  obtain ⟨Ac, capc, rfl⟩ := hx.form
  have hcl : p[f].code.length ≤ 9223372036854775807 := by obtain ⟨_, _, _, h, _⟩ := hx; exact h
  clear hr ht hx hfn
  obtain ⟨x0, x1, x2⟩ := boxes_new w #[.slice (some ⟨b0, off0, none⟩) p.length cap] #[.int .i64 0, .int .i64 0, .int .i64 0] 34 108
  have y1 := vrow_new (w.alloc (.cells #[.slice (some ⟨b0, off0, none⟩) p.length cap] 34)) #[.int .i64 0, .int .i64 0, .int .i64 0] 108
  rw [show (w.alloc (.cells #[.slice (some ⟨b0, off0, none⟩) p.length cap] 34)).heap.size = w.heap.size + 1 by simp] at y1
  have X0 : Hid (Box _ _ _) := x0
  have X1 : Hid (VRow _ (w.heap.size + 1) (ints [0, 0, 0])) := y1
  have X2 : Hid (Below _ _ _) := x2
  clear x0 x1 x2 y1
  go_enter Tryz.func124, Tryz.ntmps124
  go_wp2_with fail
  refine (implSizes _ _ _ p[f].code _ (Hx.out.below X2.out)).mono ?_
  rintro e w1 ⟨rfl, hb1⟩
  have Hb1 : Hid (Below w.heap.size w w1) := X2.out.trans (hb1.mono X2.out.size)
  have HB : Hid (Box w1 w.heap.size #[.slice (some ⟨b0, off0, none⟩) p.length cap]) := X0.out.below hb1
  have HV : Hid (VRow w1 (w.heap.size + 1) (ints [0, 0, 0])) := X1.out.below hb1
  clear hb1 X0 X1 X2
  by_cases hform : formOk p[f] = true
  · have hform' : formOk ⟨p[f].args, p[f].locals, p[f].code⟩ = true := hform
    rw [hform']
    have hn1 : 1 ≤ p[f].code.length ∧ p[f].code.length ≤ 60 := by simp [formOk] at hform; omega
    have Hform : Hid (formOk (fnAt p f) = true) := by rw [Hfn.out]; exact hform
    clear hform hform'
    have c0 := HB.out.at0
    have cz := HB.out.1
    obtain ⟨e0', e1', e2'⟩ : w1.cell? ⟨b0, off0 + f * 3, none⟩ = some (.int .i64 p[f].args) ∧ w1.cell? ⟨b0, off0 + f * 3 + 1, none⟩ = some (.int .i64 p[f].locals) ∧ w1.cell? ⟨b0, off0 + f * 3 + 2, none⟩ = some (.slice Ac p[f].code.length capc) :=
      ⟨by rw [Hb1.out.cell (by exact hlt0)]; exact e0, by rw [Hb1.out.cell (by exact hlt0)]; exact e1, by rw [Hb1.out.cell (by exact hlt0)]; exact e2⟩
    clear e0 e1 e2
    obtain ⟨c, hc⟩ : ∃ c, c = p[f].code := ⟨_, rfl⟩
    have Hc : Hid (c = (fnAt p f).code) := by rw [Hfn.out]; exact hc
    rw [← hc] at e2' Hx hn1 hcl ⊢
    have Hcf : Hid (c = p[f].code) := hc
    clear hc
    go_wp2_with fail
    clear c0 cz e0' e1' e2'
    go_loopg [26] (c.length) (fun g i wr => ∃ k : Nat, k ≤ c.length ∧ i = .int .i64 k ∧ c.length ≤ k + g ∧ Box wr w.heap.size #[.slice (some ⟨b0, off0, none⟩) p.length cap] ∧ VRow wr (w.heap.size + 1) (ints [0, 0, 0]) ∧ Below w.heap.size w wr ∧ ∀ j, j < k → rightM p f (insAt c j).1 (insAt c j).2 = true)
    case atStart => exact ⟨0, Nat.zero_le _, rfl, by omega, HB.out, HV.out, Hb1.out, fun j h => by omega⟩
    case round =>
      clear HB HV Hb1
      obtain ⟨k, hk, rfl, hkg, hB, hV, hb, hall⟩ := hrel
      have HB : Hid (Box wr w.heap.size #[.slice (some ⟨b0, off0, none⟩) p.length cap]) := hB
      have HV : Hid (VRow wr (w.heap.size + 1) (ints [0, 0, 0])) := hV
      have Hb : Hid (Below w.heap.size w wr) := hb
      have Hall : Hid (∀ j, j < k → rightM p f (insAt c j).1 (insAt c j).2 = true) := hall
      have c0 := hB.at0
      have cz := hB.1
      clear hB hV hb hall
      by_cases hkl : k < c.length
      · obtain ⟨bc, offc, rfl, hltc, d0, d1⟩ := (Hx.out.below Hb.out).at k hkl
        obtain ⟨op, a, hop⟩ : ∃ op a, insAt c k = (op, a) := ⟨_, _, rfl⟩
        have hcK : c[k] = (op, a) := by rw [← hop, insAt_get c k hkl]
        rw [hcK] at d0 d1
        have Hop : Hid (insAt c k = (op, a)) := hop
        clear hop hcK
        go_wp2_with fail
        have hal : Below wr.heap.size wr (wr.alloc (.cells #[.int .i64 op, .int .i64 a] 146)) := (Below.refl _ _).alloc (Nat.le_refl _) _
        have hal2 := Hb.out.trans (hal.mono Hb.out.size)
        refine (implRight _ p f op a _ (Ht.out.below hal2) (Hr.out.below hal2)).mono ?_
        rintro e w2 ⟨rfl, hb2⟩
        have hb2' := hal.trans (hb2.mono hal.size)
        have HB2 : Hid (Box w2 w.heap.size #[.slice (some ⟨b0, off0, none⟩) p.length cap]) := HB.out.below hb2'
        have HV2 : Hid (VRow w2 (w.heap.size + 1) (ints [0, 0, 0])) := HV.out.below hb2'
        have Hb2 : Hid (Below w.heap.size w w2) := Hb.out.trans (hb2'.mono Hb.out.size)
        clear hal hal2 hb2 hb2' d0 d1 c0 cz HB HV
        by_cases hrt : rightM p f op a = true
        · rw [hrt]
          have Hrt : Hid (rightM p f (insAt c k).1 (insAt c k).2 = true) := by rw [Hop.out]; exact hrt
          clear hrt
          go_wp2_with fail
          go_roundg (gk - 1)
          case measure => omega
          case rel => exact ⟨k + 1, by omega, by go_num, by omega, HB2.out, HV2.out, Hb2.out, fun j hj => if e : j = k then by subst e; exact Hrt.out else Hall.out j (by omega)⟩
        · have hrt' : rightM p f op a = false := by simpa using hrt
          rw [hrt']
          have HF : Hid (FuncIs p f k 1) := by
            have := FuncIs.ins (p := p) (f := f) k Hform.out (by rw [← Hc.out]; exact hkl) (by rw [← Hc.out, Hop.out]; exact hrt') (fun j hj => by rw [← Hc.out]; exact Hall.out j hj)
            exact this
          clear hrt hrt'
          obtain ⟨r0, q0⟩ := HV2.out.int 0 (by simp)
          obtain ⟨r1, q1⟩ := HV2.out.int 1 (by simp)
          obtain ⟨r2, q2⟩ := HV2.out.int 2 (by simp)
          have rz := HV2.out.1
          simp at r0 r1 r2
          go_wp2_with fail
          have HZ : Hid (VRow (((w2.setCell ⟨w.heap.size + 1, 0, none⟩ (.int .i64 f)).setCell ⟨w.heap.size + 1, 1, none⟩ (.int .i64 k)).setCell ⟨w.heap.size + 1, 2, none⟩ (.int .i64 1)) (w.heap.size + 1) (ints [f, k, 1])) := HV2.out.put3 _ _ _
          exact bodyPost_ret (v := .agg #[.int .i64 f, .int .i64 k, .int .i64 1]) (by simp [results, Tryz.results124, go_sem, HZ.out.at0, HZ.out.at1, HZ.out.at2]) rfl
            ⟨f, k, 1, rfl, below_put3 Hb2.out _ _ _ (by omega), fun h => by omega, fun _ => rfl, fun _ => HF.out⟩
      · have HA : Hid (∀ j, j < c.length → rightM p f (insAt c j).1 (insAt c j).2 = true) := fun j hj => Hall.out j (by omega)
        have hfi := implFind (.slice (some ⟨b0, off0, none⟩) p.length cap) p f wr (Ht.out.below Hb.out) (Hr.out.below Hb.out) hf (by rw [← Hcf.out]; exact hn1.1) (by rw [← Hcf.out]; exact hn1.2)
          (by rw [← Hcf.out]; exact goesTo_range (p := p) (f := f) Hc.out HA.out)
        rw [← Hcf.out] at hfi
        have Hfi : Hid (Calls Tryz.prog 58 #[.agg #[.slice (some ⟨b0, off0, none⟩) p.length cap], .int .i64 f] wr fun e w' => FoundIs p c wr w' e) := hfi
        clear hfi
        go_wp2_with fail
        refine Calls.mono (R := fun e w' => FoundIs p c wr w' e) Hfi.out ?_
        rintro e w2 ⟨Bm, at', code, rfl, hb2, hcase⟩
        have HV2 : Hid (VRow w2 (w.heap.size + 1) (ints [0, 0, 0])) := HV.out.below hb2
        have Hb2 : Hid (Below w.heap.size w w2) := Hb.out.trans (hb2.mono Hb.out.size)
        clear hb2 c0 cz HB HV
        obtain ⟨r0, q0⟩ := HV2.out.int 0 (by simp)
        obtain ⟨r1, q1⟩ := HV2.out.int 1 (by simp)
        obtain ⟨r2, q2⟩ := HV2.out.int 2 (by simp)
        have rz := HV2.out.1
        simp at r0 r1 r2
        rcases hcase with ⟨rfl, s, _, _, hrun⟩ | ⟨hne, a, rfl, hrun⟩
        · have HF : Hid (ArgsUp p → FuncIs p f 0 0) := fun hp => FuncIs.ok _ Hform.out (by rw [← Hc.out]; exact HA.out) (by rw [← Hc.out]; exact (hrun hp).1)
          clear hrun
          go_wp2_with fail
          have HZ : Hid (VRow (((w2.setCell ⟨w.heap.size + 1, 0, none⟩ (.int .i64 0)).setCell ⟨w.heap.size + 1, 1, none⟩ (.int .i64 0)).setCell ⟨w.heap.size + 1, 2, none⟩ (.int .i64 0)) (w.heap.size + 1) (ints [0, 0, 0])) := HV2.out.put3 _ _ _
          exact bodyPost_ret (v := .agg #[.int .i64 0, .int .i64 0, .int .i64 0]) (by simp [results, Tryz.results124, go_sem, HZ.out.at0, HZ.out.at1, HZ.out.at2]) rfl
            ⟨0, 0, 0, rfl, below_put3 Hb2.out _ _ _ (by omega), fun _ => ⟨Hform.out, rfl, rfl⟩, fun h => absurd rfl h, HF.out⟩
        · have HF : Hid (ArgsUp p → FuncIs p f a code) := fun hp => FuncIs.fault a code Hform.out (by rw [← Hc.out]; exact HA.out) (by rw [← Hc.out]; exact hrun hp)
          have hne' : (code != 0) = true := by simpa using hne
          clear hrun
          go_wp2_with fail
          have HZ : Hid (VRow (((w2.setCell ⟨w.heap.size + 1, 0, none⟩ (.int .i64 f)).setCell ⟨w.heap.size + 1, 1, none⟩ (.int .i64 a)).setCell ⟨w.heap.size + 1, 2, none⟩ (.int .i64 code)) (w.heap.size + 1) (ints [f, a, code])) := HV2.out.put3 _ _ _
          exact bodyPost_ret (v := .agg #[.int .i64 f, .int .i64 a, .int .i64 code]) (by simp [results, Tryz.results124, go_sem, HZ.out.at0, HZ.out.at1, HZ.out.at2]) rfl
            ⟨f, a, code, rfl, below_put3 Hb2.out _ _ _ (by omega), fun h => absurd h hne, fun _ => rfl, HF.out⟩
  · have hform' : formOk ⟨p[f].args, p[f].locals, p[f].code⟩ = false := by simpa using hform
    rw [hform']
    have HF : Hid (FuncIs p f 0 1) := FuncIs.form (by rw [Hfn.out]; exact hform')
    clear hform hform'
    obtain ⟨r0, q0⟩ := HV.out.int 0 (by simp)
    obtain ⟨r1, q1⟩ := HV.out.int 1 (by simp)
    obtain ⟨r2, q2⟩ := HV.out.int 2 (by simp)
    have rz := HV.out.1
    simp at r0 r1 r2
    go_wp2_with fail
    have HZ : Hid (VRow (((w1.setCell ⟨w.heap.size + 1, 0, none⟩ (.int .i64 f)).setCell ⟨w.heap.size + 1, 1, none⟩ (.int .i64 0)).setCell ⟨w.heap.size + 1, 2, none⟩ (.int .i64 1)) (w.heap.size + 1) (ints [f, 0, 1])) := HV.out.put3 _ _ _
    exact bodyPost_ret (v := .agg #[.int .i64 f, .int .i64 0, .int .i64 1]) (by simp [results, Tryz.results124, go_sem, HZ.out.at0, HZ.out.at1, HZ.out.at2]) rfl
      ⟨f, 0, 1, rfl, below_put3 Hb1.out _ _ _ (by omega), fun h => by omega, fun _ => rfl, fun _ => HF.out⟩
end Go.Proofs.YtijgonjnmibifaaGreatDoor
