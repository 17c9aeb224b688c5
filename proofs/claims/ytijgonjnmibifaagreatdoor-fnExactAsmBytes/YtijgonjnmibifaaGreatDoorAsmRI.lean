/- impl.AsmRight. -/
import Derived.Test.YtijgonjnmibifaaGreatDoorInsBW
import Derived.Test.YtijgonjnmibifaaGreatDoorSameAN
namespace Go.Proofs.YtijgonjnmibifaaGreatDoor
open Go.RowKit

theorem wrap_small {x : Int} (h0 : 0 ≤ x) (h1 : x ≤ 1048576) : IntKind.i64.wrap x = x := by
  rw [IntKind.wrap_i64]; omega

def SaysAsm (p : List FnM) (a : AsM) (b : Bool) : Prop := b = true ↔ AsmIs p a
/-- what is told of code of registers: is it right? -/
def AsmTold (p : List FnM) (a : AsM) (w w' : World) (e : Ending) : Prop := ∃ b : Bool, e = .returned (.bool b) ∧ Below w.heap.size w w' ∧ SaysAsm p a b

theorem asmIs_out {p : List FnM} {a : AsM} (h : ¬ (RightP p ∧ inL a.func p.length = true)) : SaysAsm p a false := ⟨fun e => (by cases e), fun e => absurd e.1 h⟩
theorem asmIs_len {p : List FnM} {a : AsM} (h : ¬ (a.code.length = (fnAt p a.func).code.length ∧ a.maps.length = (fnAt p a.func).code.length)) : SaysAsm p a false := ⟨fun e => (by cases e), fun e => absurd ⟨e.2.1, e.2.2.1⟩ h⟩
theorem asmIs_iff {p : List FnM} {a : AsM} {hs : List Int} (h1 : RightP p ∧ inL a.func p.length = true) (h2 : a.code.length = (fnAt p a.func).code.length) (h3 : a.maps.length = (fnAt p a.func).code.length) (h4 : HRun p (fnAt p a.func).code (startH (fnAt p a.func).code.length) (.inl hs)) :
    AsmIs p a ↔ ∀ k, k < a.code.length → placeOk p a.func (hs.getD k 0) (a.code.getD k default) (a.maps.getD k []) = true := by
  constructor
  · rintro ⟨-, -, -, hs', hr, hk⟩
    have := hr.unique h4
    simp only [Sum.inl.injEq] at this
    subst this
    exact hk
  · exact fun hk => ⟨h1, h2, h3, hs, h4, hk⟩

set_option maxRecDepth 100000 in
set_option maxHeartbeats 12800000 in
theorem implAsm (v x y : Value) (p : List FnM) (a : AsM) (w : World) (ht : Tab w) (hr : FnRow 0 w v p) (ha : AsRow 0 w x y a) :
    Calls Tryz.prog 28 #[.agg #[v], asV x y a] w fun e w' => AsmTold p a w w' e := by
  have Hr : Hid (FnRow 0 w v p) := hr
  have Ht : Hid (Tab w) := ht
  have Ha : Hid (AsRow 0 w x y a) := ha
  have hlen := hr.len
  have hlc := ha.1.len
  have hlm := ha.2.len
  obtain ⟨A, cap, rfl⟩ := hr.form
  obtain ⟨C, cac, rfl⟩ := ha.1.form
  obtain ⟨D, dap, rfl⟩ := ha.2.form
  clear hr ht ha
  unfold asV
  obtain ⟨x0, x1, x2⟩ := boxes_new w #[.slice A p.length cap] #[.int .i64 a.func, .slice C a.code.length cac, .slice D a.maps.length dap] 34 39
  have X0 : Hid (Box _ w.heap.size #[.slice A p.length cap]) := x0
  have X1 : Hid (AsBox _ (w.heap.size + 1) (.slice C a.code.length cac) (.slice D a.maps.length dap) a) := x1
  have X2 : Hid (Below w.heap.size w _) := x2
  clear x0 x1 x2
  go_enter Tryz.func28, Tryz.ntmps28
  go_wp2_with fail
  refine (implIn _ p a.func _ (Ht.out.below X2.out) (Hr.out.below X2.out)).mono ?_
  rintro e w1 ⟨b, rfl, hb1, hiff⟩
  have Hb1 : Hid (Below w.heap.size w w1) := X2.out.trans (hb1.mono X2.out.size)
  have Y0 : Hid (Box w1 w.heap.size #[.slice A p.length cap]) := X0.out.below hb1
  have Y1 : Hid (AsBox w1 (w.heap.size + 1) (.slice C a.code.length cac) (.slice D a.maps.length dap) a) := X1.out.below hb1
  clear hb1 X0 X1 X2
  cases b with
  | false =>
    have HF : Hid (SaysAsm p a false) := asmIs_out (fun h => by simpa using hiff.2 h)
    clear hiff
    go_wp2_with fail
    go_ret
    exact ⟨false, rfl, Hb1.out, HF.out⟩
  | true =>
    obtain ⟨hright, hin⟩ := hiff.1 rfl
    have hin' : 0 ≤ a.func ∧ a.func < p.length := by simpa [inL] using hin
    obtain ⟨f, hf⟩ := Int.eq_ofNat_of_zero_le hin'.1
    have hk : f < p.length := by omega
    obtain ⟨hs, hrun, hl1, hl2, _, h08, _⟩ := hright.heights f hk
    have hfn := fnAt_nat p f hk
    obtain ⟨hfo, hall, _⟩ := ((hright.all).2.2 f hk).well rfl
    have hform : 1 ≤ (fnAt p f).code.length ∧ (fnAt p f).code.length ≤ 60 ∧ 0 ≤ (fnAt p f).locals ∧ (fnAt p f).locals ≤ 8 := by simp [formOk] at hfo; omega
    have hargs : ArgsUp p := fun g hg => by have := hright.args g hg; omega
    have Hafu : Hid (a.func = (f : Int)) := hf
    rw [Hafu.out] at hin
    obtain ⟨c, hc⟩ : ∃ c, c = p[f].code := ⟨_, rfl⟩
    have hcf : (fnAt p f).code = c := by rw [hfn, hc]
    obtain ⟨L, hL⟩ : ∃ L, L = p[f].locals := ⟨_, rfl⟩
    have hLf : (fnAt p f).locals = L := by rw [hfn, hL]
    rw [hcf] at hrun hl1 hall hform
    rw [hLf] at hform
    have HR0 : Hid (RightP p ∧ inL a.func p.length = true) := ⟨hright, by rw [Hafu.out]; exact hin⟩
    have HR : Hid (ArgsUp p ∧ True) := ⟨hargs, trivial⟩
    have Hcf : Hid ((fnAt p f).code = c) := hcf
    have Hrun : Hid (HRun p c (startH c.length) (.inl hs)) := hrun
    have Hr08 : Hid (∀ j, j < c.length → hs.getD j 0 = -1 ∨ (0 ≤ hs.getD j 0 ∧ hs.getD j 0 ≤ 8)) := fun j hj => h08 j (by rw [hl1]; exact hj)
    have HL : Hid ((fnAt p f).locals = L) := hLf
    have HLr : Hid (0 ≤ L ∧ L ≤ 8) := ⟨hform.2.2.1, hform.2.2.2⟩
    have hcl : 1 ≤ c.length ∧ c.length ≤ 60 := ⟨hform.1, hform.2.1⟩
    have Hto : Hid (∀ j, j < c.length → ∀ t ∈ goesTo j (insAt c j), 0 ≤ t ∧ t ≤ c.length) := goesTo_range (p := p) (f := f) hcf.symm hall
    obtain ⟨bf, offf, xf, rfl, hltf, e0, e1, e2, hxf⟩ := (Hr.out.below Hb1.out).at f hk
    obtain ⟨Ac, capc, rfl⟩ := hxf.form
    rw [← hc] at e2
    rw [← hL] at e1
    have Hcp : Hid (c = p[f].code) := hc
    have s0 := Y0.out.1
    have q0 := Y0.out.at0
    obtain ⟨s1, d0, d1, d2⟩ := Y1.out.cells
    rw [hf] at d0
    have hfi : (0 : Int) ≤ (f : Int) := by omega
    have hfl : (f : Int) < (p.length : Int) := by omega
    clear hiff hright hin hin' hfn hfo hall hcf hrun hargs hc hf hL hLf hform hl1 hl2 h08 hxf
    by_cases hlen1 : a.code.length = c.length
    case neg =>
      have hne : ((a.code.length : Int) != (c.length : Int)) = true := by simpa using (show ¬ (a.code.length : Int) = (c.length : Int) by omega)
      have HF : Hid (SaysAsm p a false) := asmIs_len (fun h => hlen1 (by rw [h.1, Hafu.out, Hcf.out]))
      go_wp2_with fail
      go_ret
      exact ⟨false, rfl, Hb1.out.alloc Hb1.out.size _, HF.out⟩
    by_cases hlen2 : a.maps.length = c.length
    case neg =>
      have hne : ((a.maps.length : Int) != (c.length : Int)) = true := by simpa using (show ¬ (a.maps.length : Int) = (c.length : Int) by omega)
      have heq : ((a.code.length : Int) != (c.length : Int)) = false := by simpa using (show (a.code.length : Int) = (c.length : Int) by omega)
      have HF : Hid (SaysAsm p a false) := asmIs_len (fun h => hlen2 (by rw [h.2, Hafu.out, Hcf.out]))
      go_wp2_with fail
      go_ret
      exact ⟨false, rfl, Hb1.out.alloc Hb1.out.size _, HF.out⟩
    have heq : ((a.code.length : Int) != (c.length : Int)) = false := by simpa using (show (a.code.length : Int) = (c.length : Int) by omega)
    have heq2 : ((a.maps.length : Int) != (c.length : Int)) = false := by simpa using (show (a.maps.length : Int) = (c.length : Int) by omega)
    have HAI : Hid (AsmIs p a ↔ ∀ k, k < a.code.length → placeOk p a.func (hs.getD k 0) (a.code.getD k default) (a.maps.getD k []) = true) :=
      asmIs_iff HR0.out (by rw [Hafu.out, Hcf.out]; exact hlen1) (by rw [Hafu.out, Hcf.out]; exact hlen2) (by rw [Hafu.out, Hcf.out]; exact Hrun.out)
    have hal : Below w1.heap.size w1 (w1.alloc (.cells #[.int .i64 p[f].args, .int .i64 L, .slice Ac p[f].code.length capc] 105)) := (Below.refl _ _).alloc (Nat.le_refl _) _
    have Hal : Hid (Below w1.heap.size w1 (w1.alloc (.cells #[.int .i64 p[f].args, .int .i64 L, .slice Ac p[f].code.length capc] 105))) := hal
    have hfi2 := implFind (.slice (some ⟨bf, offf, none⟩) p.length cap) p f (w1.alloc (.cells #[.int .i64 p[f].args, .int .i64 L, .slice Ac p[f].code.length capc] 105)) ((Ht.out.below Hb1.out).below hal) ((Hr.out.below Hb1.out).below hal) hk (by rw [← Hcp.out]; exact hcl.1) (by rw [← Hcp.out]; exact hcl.2) (by rw [← Hcp.out]; exact Hto.out)
    rw [← Hcp.out] at hfi2
    have Hfi : Hid (Calls Tryz.prog 58 _ _ fun e w' => FoundIs p c _ w' e) := hfi2
    have BF : Hid (Box (w1.alloc (.cells #[.int .i64 p[f].args, .int .i64 L, .slice Ac p[f].code.length capc] 105)) w1.heap.size #[.int .i64 p[f].args, .int .i64 L, .slice Ac p[f].code.length capc]) := box_new w1 _ 105
    rw [← Hcp.out] at Hal BF
    clear hal hfi2
    go_wp2_with fail
    refine Calls.mono (R := fun e w' => FoundIs p c _ w' e) Hfi.out ?_
    rintro e W ⟨Bm, at', code, rfl, hb2, hcase⟩
    have Hlen1 : Hid (a.code.length = c.length) := hlen1
    have Hlen2 : Hid (a.maps.length = c.length) := hlen2
    rcases hcase with ⟨rfl, s, hok, hM, hru⟩ | ⟨_, aa, _, hru⟩
    · have hes : (hsOf c.length s).h = hs := by
        have := ((hru HR.out.1).1).unique Hrun.out
        simpa using this
      have Hup : Hid (∀ j x, s.m.getD j none = some x → 0 ≤ x ∧ x ≤ 8) := (hru HR.out.1).2
      have hml := hok.len
      have HW : Hid (∀ w', Below W.heap.size W w' → Box w' w.heap.size #[.slice (some ⟨bf, offf, none⟩) p.length cap] ∧ Box w' (w.heap.size + 1) #[.int .i64 (f : Int), .slice C c.length cac, .slice D c.length dap] ∧ Box w' w1.heap.size #[.int .i64 p[f].args, .int .i64 L, .slice Ac c.length capc] ∧ MapH w' Bm s.m ∧ Tab w' ∧ FnRow 0 w' (.slice (some ⟨bf, offf, none⟩) p.length cap) p ∧ (AiRow 0 w' (.slice C c.length cac) a.code ∧ MapsRow 0 w' (.slice D c.length dap) a.maps) ∧ Below w.heap.size w w') := by
        intro w' h
        have hW : Below w1.heap.size w1 w' := Hal.out.trans ((hb2.trans (h.mono hb2.size)).mono Hal.out.size)
        have hw := Hb1.out.trans (hW.mono Hb1.out.size)
        have hA := Ha.out.below hw
        rw [AsRow, Hlen1.out, Hlen2.out] at hA
        have hB : Box w' (w.heap.size + 1) #[.int .i64 a.func, .slice C a.code.length cac, .slice D a.maps.length dap] := Y1.out.below hW
        rw [Hafu.out, Hlen1.out, Hlen2.out] at hB
        exact ⟨Y0.out.below hW, hB, (BF.out.below hb2).below h, hM.below h, Ht.out.below hw, Hr.out.below hw, hA, hw⟩
      have Hes : Hid ((hsOf c.length s).h = hs) := hes
      have HAJ : Hid (AsmIs p a ↔ ∀ k, k < c.length → placeOk p f (hs.getD k 0) (a.code.getD k default) (a.maps.getD k []) = true) := by
        have h := HAI.out
        rw [Hafu.out, Hlen1.out] at h
        exact h
      obtain ⟨k0, k1, -, -, -, -, -, -⟩ := HW.out W (Below.refl _ _)
      clear e0 e1 e2 s0 q0 s1 d0 d1 d2
      have s1 := k1.1
      have d1 := k1.at1
      clear k0 k1 hes hok hM hru hb2 hlen1 hlen2 heq heq2 Hfi Hal BF HAI hltf hfi hfl hlc hlm
      go_wp2_with fail
      clear s1 d1
      go_loopg [51] (c.length) (fun g ix wr => ∃ k : Nat, k ≤ c.length ∧ ix = .int .i64 k ∧ c.length ≤ k + g ∧ Below W.heap.size W wr ∧ ∀ j, j < k → placeOk p f (hs.getD j 0) (a.code.getD j default) (a.maps.getD j []) = true)
      case atStart => exact ⟨0, Nat.zero_le _, rfl, by omega, Below.refl _ _, fun j h => by omega⟩
      case round =>
        obtain ⟨k, hk', rfl, hkg, hb, hok⟩ := hrel
        have Hb : Hid (Below W.heap.size W wr) := hb
        have Hok : Hid (∀ j, j < k → placeOk p f (hs.getD j 0) (a.code.getD j default) (a.maps.getD j []) = true) := hok
        have HAll : Hid ((∀ j, j < c.length → placeOk p f (hs.getD j 0) (a.code.getD j default) (a.maps.getD j []) = true) → SaysAsm p a true) := fun h => ⟨fun _ => HAJ.out.2 h, fun _ => rfl⟩
        clear hb hok
        by_cases hkl : k < c.length
        · have hkc : k < a.code.length := by rw [Hlen1.out]; exact hkl
          have hkm : k < a.maps.length := by rw [Hlen2.out]; exact hkl
          obtain ⟨i, hki⟩ : ∃ i, i = a.code[k] := ⟨_, rfl⟩
          obtain ⟨m, hkmm⟩ : ∃ m, m = a.maps[k] := ⟨_, rfl⟩
          have hgi : a.code.getD k default = i := by rw [hki]; simp [List.getD, hkc]
          have hgm : a.maps.getD k [] = m := by rw [hkmm]; simp [List.getD, hkm]
          have HNo : Hid (placeOk p f (hs.getD k 0) i m = false → SaysAsm p a false) := fun h => ⟨fun e => (by cases e), fun e => (by have := HAJ.out.1 e k hkl; rw [hgi, hgm, h] at this; cases this)⟩
          have HYes : Hid (placeOk p f (hs.getD k 0) i m = true → ∀ j, j < k + 1 → placeOk p f (hs.getD j 0) (a.code.getD j default) (a.maps.getD j []) = true) := fun h j hj => if e : j = k then by subst e; rw [hgi, hgm]; exact h else Hok.out j (by omega)
          obtain ⟨-, kb, -, kM, -, -, kA, -⟩ := HW.out wr Hb.out
          obtain ⟨bi, offi, xi, yi, rfl, hlti, c0, c1, c2, c3, c4, hxi, hyi⟩ := kA.1.at k hkc
          obtain ⟨bm, offm, xm, rfl, hltm, cm0, hxm⟩ := kA.2.at k hkm
          rw [← hki] at c1 c2 c4 hxi hyi
          rw [← hkmm] at hxm
          obtain ⟨X1, z1, rfl⟩ := hxi.form
          obtain ⟨X2, z2, rfl⟩ := hyi.form
          obtain ⟨M1, y1, rfl⟩ := hxm.form
          obtain ⟨WI, HWI0⟩ : ∃ WI, Hid (WI = wr.alloc (.cells #[.slice X1 i.pre.length z1, .int .i64 i.op, .int .i64 i.to, .slice X2 i.l.length z2, .int .i64 i.t] 60)) := ⟨_, rfl⟩
          have hbI : Below wr.heap.size wr WI := by rw [HWI0.out]; exact (Below.refl _ _).alloc (Nat.le_refl _) _
          have HWI : Hid (Below W.heap.size W WI) := Hb.out.trans (hbI.mono Hb.out.size)
          have hbx : AiBox WI wr.heap.size (.slice X1 i.pre.length z1) (.slice X2 i.l.length z2) i := by rw [HWI0.out]; exact box_new wr _ 60
          have hcm : WI.cell? ⟨bm, offm + k, none⟩ = some (.slice M1 m.length y1) := by rw [hbI.cell (by exact hltm)]; exact cm0
          have hbm : bm < WI.heap.size := Nat.lt_of_lt_of_le hltm hbI.size
          have HS : Hid (∀ w', Below WI.heap.size WI w' → w'.cell? ⟨wr.heap.size, 0, none⟩ = some (.slice X1 i.pre.length z1) ∧ w'.cell? ⟨wr.heap.size, 1, none⟩ = some (.int .i64 i.op) ∧ w'.cell? ⟨wr.heap.size, 2, none⟩ = some (.int .i64 i.to) ∧ w'.cell? ⟨wr.heap.size, 3, none⟩ = some (.slice X2 i.l.length z2) ∧ w'.cell? ⟨wr.heap.size, 4, none⟩ = some (.int .i64 i.t) ∧ w'.cell? ⟨w.heap.size + 1, 2, none⟩ = some (.slice (some ⟨bm, offm, none⟩) c.length dap) ∧ w'.cell? ⟨bm, offm + k, none⟩ = some (.slice M1 m.length y1) ∧ w'.cell? ⟨w.heap.size, 0, none⟩ = some (.slice (some ⟨bf, offf, none⟩) p.length cap) ∧ w'.cell? ⟨w.heap.size + 1, 0, none⟩ = some (.int .i64 (f : Int)) ∧ w'.cell? ⟨w1.heap.size, 1, none⟩ = some (.int .i64 L)) := fun w' h => by
            obtain ⟨u0, u1, u2, -, -, -, -, -⟩ := HW.out w' (HWI.out.trans (h.mono HWI.out.size))
            obtain ⟨-, b0, b1, b2, b3, b4⟩ := (hbx.below h).cells
            exact ⟨b0, b1, b2, b3, b4, u1.at2, by rw [h.cell (by exact hbm)]; exact hcm, u0.at0, u1.at0, u2.at1⟩
          have HXI : Hid (∀ w', Below WI.heap.size WI w' → MvRow 0 w' (.slice X1 i.pre.length z1) i.pre ∧ InsRow 0 w' (.slice X2 i.l.length z2) i.l ∧ InsRow 0 w' (.slice M1 m.length y1) m) := fun w' h => by
            have hw : Below wr.heap.size wr w' := hbI.trans (h.mono hbI.size)
            exact ⟨hxi.below hw, hyi.below hw, hxm.below hw⟩
          have HCS : Hid (∀ w', Below WI.heap.size WI w' → Calls Tryz.prog 59 #[.agg #[.slice X1 i.pre.length z1, .int .i64 i.op, .int .i64 i.to, .slice X2 i.l.length z2, .int .i64 i.t], .agg #[.slice none 0 0, .int .i64 0, .int .i64 (-1), .slice none 0 0, .int .i64 0]] w' fun e w'' => e = .returned (.bool (decide (i = bareNop))) ∧ Below w'.heap.size w' w'') := fun w' h =>
            implSameAi i bareNop _ _ (.slice none 0 0) (.slice none 0 0) w' (HXI.out w' h).1 (HXI.out w' h).2.1 (show MvRow 0 w' (.slice none 0 0) [] from ⟨none, 0, rfl, by simp, fun i hi => absurd hi (Nat.not_lt_zero _)⟩) (show InsRow 0 w' (.slice none 0 0) [] from ⟨none, 0, rfl, by simp, fun i hi => absurd hi (Nat.not_lt_zero _)⟩)
          have HCI : Hid (∀ w', Below WI.heap.size WI w' → Calls Tryz.prog 61 #[.agg #[.slice (some ⟨bf, offf, none⟩) p.length cap], .int .i64 (f : Int), .agg #[.slice X1 i.pre.length z1, .int .i64 i.op, .int .i64 i.to, .slice X2 i.l.length z2, .int .i64 i.t]] w' fun e w'' => e = .returned (.bool (aiOk p f i)) ∧ Below w'.heap.size w' w'') := fun w' h => by
            obtain ⟨-, -, -, -, uT, uF, -, -⟩ := HW.out w' (HWI.out.trans (h.mono HWI.out.size))
            exact implAi _ _ _ p f i w' uT uF (HXI.out w' h).1 (HXI.out w' h).2.1
          have HCM : Hid (∀ n w', Below WI.heap.size WI w' → Calls Tryz.prog 62 #[.slice M1 m.length y1, .int .i64 n] w' fun e w'' => e = .returned (.bool (mapOk m n)) ∧ Below w'.heap.size w' w'') := fun n w' h => implMap _ m n w' (HXI.out w' h).2.2
          obtain ⟨hlook, _⟩ := (HW.out WI HWI.out).2.2.2.1.look (by omega) k (by omega)
          rw [HWI0.out] at hlook
          have hg := hsOf_get hml k hkl
          rw [Hes.out] at hg
          have Hh : Hid (hs.getD k 0 = (s.m.getD k none).getD (-1)) := hg
          have d1 := kb.at1
          have hk0 : (0 : Int) ≤ (k : Int) := by omega
          have hkL : (k : Int) < (c.length : Int) := by omega
          have HKL : Hid (k < c.length) := hkl
          clear hg hbI hbx hcm hbm kb kM kA hxi hyi hxm hgi hgm hki hkmm hkc hkm hltm cm0 d1
          cases hm : s.m.getD k none with
          | none =>
            rw [hm] at hlook
            simp only [Option.getD_none, Option.isSome_none] at hlook
            have hh : hs.getD k 0 < 0 := by rw [Hh.out, hm]; decide
            have Hpl : Hid (placeOk p f (hs.getD k 0) i m = (decide (i = bareNop) && decide (m.length = 0))) := by show placeOk _ _ _ _ _ = _; unfold placeOk; rw [if_pos hh]
            clear hm hh HCI HCM
            by_cases hbare : i = bareNop
            case neg =>
              have hsame : decide (i = bareNop) = false := decide_eq_false hbare
              have HF : Hid (SaysAsm p a false) := HNo.out (by rw [Hpl.out, hsame, Bool.false_and])
              clear hbare
              go_upto_region 12 with fail
              rw [← HWI0.out]
              go_cut [51, 76] from 51 to 96 (fun ix q wc => ix = .int .i64 k ∧ q = .bool true ∧ Below WI.heap.size WI wc)
              case first =>
                  have hb0 : Below WI.heap.size WI WI.drew := (Below.refl _ _).drew
                  refine wp_region_held_drew (S := fun w' => w'.cell? ⟨wr.heap.size, 0, none⟩ = some (.slice X1 i.pre.length z1) ∧ w'.cell? ⟨wr.heap.size, 1, none⟩ = some (.int .i64 i.op) ∧ w'.cell? ⟨wr.heap.size, 2, none⟩ = some (.int .i64 i.to) ∧ w'.cell? ⟨wr.heap.size, 3, none⟩ = some (.slice X2 i.l.length z2) ∧ w'.cell? ⟨wr.heap.size, 4, none⟩ = some (.int .i64 i.t) ∧ w'.cell? ⟨w.heap.size + 1, 2, none⟩ = some (.slice (some ⟨bm, offm, none⟩) c.length dap) ∧ w'.cell? ⟨bm, offm + k, none⟩ = some (.slice M1 m.length y1) ∧ w'.cell? ⟨w.heap.size, 0, none⟩ = some (.slice (some ⟨bf, offf, none⟩) p.length cap) ∧ w'.cell? ⟨w.heap.size + 1, 0, none⟩ = some (.int .i64 (f : Int)) ∧ w'.cell? ⟨w1.heap.size, 1, none⟩ = some (.int .i64 L)) (by kernel_rfl) (HS.out _ hb0) (fun hHeld => ?_)
                  refine wpAnyH_take (i := 0) (v := ?va1) rfl (by kernel_rfl) (by kernel_rfl) (by kernel_rfl) (fun _ _ _ h => h) (Or.inl ⟨by rfl, ?ha1⟩) (by assumption) ?ra1
                  case ha1 => (intro wS hSw; (try dsimp only at hSw); go_simp; try with_reducible rfl)
                  case ra1 =>
                    try simp only [Act.put, List.setIfInBounds_toArray, List.set_cons_zero, List.set_cons_succ, List.getElem_toArray, List.getElem_cons_zero]
                    refine wpAnyH_ready (rs := [1]) (by kernel_rfl) (by simp) ?_
                    refine AllReadyH.cons rfl (fun K hK => ?_) AllReadyH.nil
                    go_simp
                    refine (implBare _).mono ?_
                    rintro e wP ⟨rfl, hbP0⟩
                    have hbP : Below WI.heap.size WI wP := hb0.trans hbP0
                    go_wp2_with fail
                    refine hK.out _ _ ?_ (fun hHelda2 => ?_)
                    · exact HS.out wP hbP
                    clear hK K
                    try simp only [Act.put, List.setIfInBounds_toArray, List.set_cons_zero, List.set_cons_succ, List.getElem_toArray, List.getElem_cons_succ, List.getElem_cons_zero]
                    refine wpAnyH_ready (rs := [2]) (by kernel_rfl) (by simp) ?_
                    refine AllReadyH.cons rfl (fun K hK => ?_) AllReadyH.nil
                    go_simp
                    refine (HCS.out wP hbP).mono ?_
                    rintro e wQ ⟨rfl, hbQ0⟩
                    have hbQ : Below WI.heap.size WI wQ := hbP.trans (hbQ0.mono hbP.size)
                    rw [hsame]
                    go_wp2_with fail
                    refine hK.out _ _ ?_ (fun hHelda3 => ?_)
                    · exact HS.out wQ hbQ
                    clear hK K
                    try simp only [Act.put, List.setIfInBounds_toArray, List.set_cons_zero, List.set_cons_succ, List.getElem_toArray, List.getElem_cons_succ, List.getElem_cons_zero]
                    refine wpAnyH_take (i := 3) (v := ?va4) rfl (by kernel_rfl) (by kernel_rfl) (by kernel_rfl) (fun _ _ _ h => h) (Or.inl ⟨by rfl, ?ha4⟩) (by assumption) ?ra4
                    case ha4 => (intro wS hSw; (try dsimp only at hSw); go_simp; try with_reducible rfl)
                    case ra4 =>
                      try simp only [Act.put, List.setIfInBounds_toArray, List.set_cons_zero, List.set_cons_succ, List.getElem_toArray, List.getElem_cons_succ, List.getElem_cons_zero]
                      refine wpAnyH_take (i := 4) (v := ?va5) rfl (by kernel_rfl) (by kernel_rfl) (by kernel_rfl) (fun _ _ _ h => h) (Or.inl ⟨by rfl, ?ha5⟩) (by assumption) ?ra5
                      case ha5 => (intro wS hSw; (try dsimp only at hSw); go_simp; try with_reducible rfl)
                      case ra5 =>
                        try simp only [Act.put, List.setIfInBounds_toArray, List.set_cons_zero, List.set_cons_succ, List.getElem_toArray, List.getElem_cons_succ, List.getElem_cons_zero]
                        refine wpAnyH_take (i := 5) (v := undef) rfl (by kernel_rfl) (by kernel_rfl) (by kernel_rfl) (fun _ _ _ h => h) (Or.inr ⟨by rfl, rfl⟩) (by assumption) ?ra6
                        case ra6 =>
                          try simp only [Act.put, List.setIfInBounds_toArray, List.set_cons_zero, List.set_cons_succ, List.getElem_toArray, List.getElem_cons_succ, List.getElem_cons_zero]
                          refine wpAnyH_take (i := 6) (v := undef) rfl (by kernel_rfl) (by kernel_rfl) (by kernel_rfl) (fun _ _ _ h => h) (Or.inr ⟨by rfl, rfl⟩) (by assumption) ?ra7
                          case ra7 =>
                            try simp only [Act.put, List.setIfInBounds_toArray, List.set_cons_zero, List.set_cons_succ, List.getElem_toArray, List.getElem_cons_succ, List.getElem_cons_zero]
                            refine wpAnyH_take (i := 7) (v := undef) rfl (by kernel_rfl) (by kernel_rfl) (by kernel_rfl) (fun _ _ _ h => h) (Or.inr ⟨by rfl, rfl⟩) (by assumption) ?ra8
                            case ra8 =>
                              try simp only [Act.put, List.setIfInBounds_toArray, List.set_cons_zero, List.set_cons_succ, List.getElem_toArray, List.getElem_cons_succ, List.getElem_cons_zero]
                              refine wpAnyH_take (i := 8) (v := undef) rfl (by kernel_rfl) (by kernel_rfl) (by kernel_rfl) (fun _ _ _ h => h) (Or.inr ⟨by rfl, rfl⟩) (by assumption) ?ra9
                              case ra9 =>
                                try simp only [Act.put, List.setIfInBounds_toArray, List.set_cons_zero, List.set_cons_succ, List.getElem_toArray, List.getElem_cons_succ, List.getElem_cons_zero]
                                refine wpAnyH_take (i := 9) (v := undef) rfl (by kernel_rfl) (by kernel_rfl) (by kernel_rfl) (fun _ _ _ h => h) (Or.inr ⟨by rfl, rfl⟩) (by assumption) ?ra10
                                case ra10 =>
                                  try simp only [Act.put, List.setIfInBounds_toArray, List.set_cons_zero, List.set_cons_succ, List.getElem_toArray, List.getElem_cons_succ, List.getElem_cons_zero]
                                  refine wpAnyH_take (i := 10) (v := undef) rfl (by kernel_rfl) (by kernel_rfl) (by kernel_rfl) (fun _ _ _ h => h) (Or.inr ⟨by rfl, rfl⟩) (by assumption) ?ra11
                                  case ra11 =>
                                    try simp only [Act.put, List.setIfInBounds_toArray, List.set_cons_zero, List.set_cons_succ, List.getElem_toArray, List.getElem_cons_succ, List.getElem_cons_zero]
                                    refine wpAnyH_take (i := 11) (v := undef) rfl (by kernel_rfl) (by kernel_rfl) (by kernel_rfl) (fun _ _ _ h => h) (Or.inr ⟨by rfl, rfl⟩) (by assumption) ?ra12
                                    case ra12 =>
                                      try simp only [Act.put, List.setIfInBounds_toArray, List.set_cons_zero, List.set_cons_succ, List.getElem_toArray, List.getElem_cons_succ, List.getElem_cons_zero]
                                      refine wpAnyH_take (i := 12) (v := ?va13) rfl (by kernel_rfl) (by kernel_rfl) (by kernel_rfl) (fun _ _ _ h => h) (Or.inl ⟨by rfl, ?ha13⟩) (by assumption) ?ra13
                                      case ha13 => (intro wS hSw; (try dsimp only at hSw); go_simp; try with_reducible rfl)
                                      case ra13 =>
                                        try simp only [Act.put, List.setIfInBounds_toArray, List.set_cons_zero, List.set_cons_succ, List.getElem_toArray, List.getElem_cons_succ, List.getElem_cons_zero]
                                        refine wpAnyH_done (by kernel_rfl) ?_ _
                                        go_wp2_with fail
                                        go_meet
                                        exact ⟨rfl, rfl, hbQ⟩
              case rest =>
                obtain ⟨rfl, rfl, hwc⟩ := hcut
                have Hwc : Hid (Below W.heap.size W wc) := HWI.out.trans (hwc.mono HWI.out.size)
                clear hwc
                go_wp2_with fail
                go_ret
                exact ⟨false, rfl, (HW.out wc Hwc.out).2.2.2.2.2.2.2, HF.out⟩
            have hsame : decide (i = bareNop) = true := decide_eq_true hbare
            by_cases hml : m.length = 0
            case neg =>
              have HF : Hid (SaysAsm p a false) := HNo.out (by rw [Hpl.out, decide_eq_false hml, Bool.and_false])
              have hgt : decide (0 < m.length) = true := by simp; omega
              have hgt' : decide ((0 : Int) < (m.length : Int)) = true := by simp; omega
              clear hbare hml
              go_upto_region 12 with fail
              rw [← HWI0.out]
              go_cut [51, 76] from 51 to 96 (fun ix q wc => ix = .int .i64 k ∧ q = .bool true ∧ Below WI.heap.size WI wc)
              case first =>
                  have hb0 : Below WI.heap.size WI WI.drew := (Below.refl _ _).drew
                  refine wp_region_held_drew (S := fun w' => w'.cell? ⟨wr.heap.size, 0, none⟩ = some (.slice X1 i.pre.length z1) ∧ w'.cell? ⟨wr.heap.size, 1, none⟩ = some (.int .i64 i.op) ∧ w'.cell? ⟨wr.heap.size, 2, none⟩ = some (.int .i64 i.to) ∧ w'.cell? ⟨wr.heap.size, 3, none⟩ = some (.slice X2 i.l.length z2) ∧ w'.cell? ⟨wr.heap.size, 4, none⟩ = some (.int .i64 i.t) ∧ w'.cell? ⟨w.heap.size + 1, 2, none⟩ = some (.slice (some ⟨bm, offm, none⟩) c.length dap) ∧ w'.cell? ⟨bm, offm + k, none⟩ = some (.slice M1 m.length y1) ∧ w'.cell? ⟨w.heap.size, 0, none⟩ = some (.slice (some ⟨bf, offf, none⟩) p.length cap) ∧ w'.cell? ⟨w.heap.size + 1, 0, none⟩ = some (.int .i64 (f : Int)) ∧ w'.cell? ⟨w1.heap.size, 1, none⟩ = some (.int .i64 L)) (by kernel_rfl) (HS.out _ hb0) (fun hHeld => ?_)
                  refine wpAnyH_take (i := 0) (v := ?vb1) rfl (by kernel_rfl) (by kernel_rfl) (by kernel_rfl) (fun _ _ _ h => h) (Or.inl ⟨by rfl, ?hb1⟩) (by assumption) ?rb1
                  case hb1 => (intro wS hSw; (try dsimp only at hSw); go_simp; try with_reducible rfl)
                  case rb1 =>
                    try simp only [Act.put, List.setIfInBounds_toArray, List.set_cons_zero, List.set_cons_succ, List.getElem_toArray, List.getElem_cons_zero]
                    refine wpAnyH_ready (rs := [1]) (by kernel_rfl) (by simp) ?_
                    refine AllReadyH.cons rfl (fun K hK => ?_) AllReadyH.nil
                    go_simp
                    refine (implBare _).mono ?_
                    rintro e wP ⟨rfl, hbP0⟩
                    have hbP : Below WI.heap.size WI wP := hb0.trans hbP0
                    go_wp2_with fail
                    refine hK.out _ _ ?_ (fun hHeldb2 => ?_)
                    · exact HS.out wP hbP
                    clear hK K
                    try simp only [Act.put, List.setIfInBounds_toArray, List.set_cons_zero, List.set_cons_succ, List.getElem_toArray, List.getElem_cons_succ, List.getElem_cons_zero]
                    refine wpAnyH_ready (rs := [2]) (by kernel_rfl) (by simp) ?_
                    refine AllReadyH.cons rfl (fun K hK => ?_) AllReadyH.nil
                    go_simp
                    refine (HCS.out wP hbP).mono ?_
                    rintro e wQ ⟨rfl, hbQ0⟩
                    have hbQ : Below WI.heap.size WI wQ := hbP.trans (hbQ0.mono hbP.size)
                    rw [hsame]
                    go_wp2_with fail
                    refine hK.out _ _ ?_ (fun hHeldb3 => ?_)
                    · exact HS.out wQ hbQ
                    clear hK K
                    try simp only [Act.put, List.setIfInBounds_toArray, List.set_cons_zero, List.set_cons_succ, List.getElem_toArray, List.getElem_cons_succ, List.getElem_cons_zero]
                    refine wpAnyH_take (i := 3) (v := ?vb4) rfl (by kernel_rfl) (by kernel_rfl) (by kernel_rfl) (fun _ _ _ h => h) (Or.inl ⟨by rfl, ?hb4⟩) (by assumption) ?rb4
                    case hb4 => (intro wS hSw; (try dsimp only at hSw); go_simp; try with_reducible rfl)
                    case rb4 =>
                      try simp only [Act.put, List.setIfInBounds_toArray, List.set_cons_zero, List.set_cons_succ, List.getElem_toArray, List.getElem_cons_succ, List.getElem_cons_zero]
                      refine wpAnyH_take (i := 4) (v := ?vb5) rfl (by kernel_rfl) (by kernel_rfl) (by kernel_rfl) (fun _ _ _ h => h) (Or.inl ⟨by rfl, ?hb5⟩) (by assumption) ?rb5
                      case hb5 => (intro wS hSw; (try dsimp only at hSw); go_simp; try with_reducible rfl)
                      case rb5 =>
                        try simp only [Act.put, List.setIfInBounds_toArray, List.set_cons_zero, List.set_cons_succ, List.getElem_toArray, List.getElem_cons_succ, List.getElem_cons_zero]
                        refine wpAnyH_take (i := 5) (v := ?vb6) rfl (by kernel_rfl) (by kernel_rfl) (by kernel_rfl) (fun _ _ _ h => h) (Or.inl ⟨by rfl, ?hb6⟩) (by assumption) ?rb6
                        case hb6 => (intro wS hSw; (try dsimp only at hSw); go_simp; try with_reducible rfl)
                        case rb6 =>
                          try simp only [Act.put, List.setIfInBounds_toArray, List.set_cons_zero, List.set_cons_succ, List.getElem_toArray, List.getElem_cons_succ, List.getElem_cons_zero]
                          refine wpAnyH_take (i := 6) (v := ?vb7) rfl (by kernel_rfl) (by kernel_rfl) (by kernel_rfl) (fun _ _ _ h => h) (Or.inl ⟨by rfl, ?hb7⟩) (by assumption) ?rb7
                          case hb7 => (intro wS hSw; (try dsimp only at hSw); go_simp; try with_reducible rfl)
                          case rb7 =>
                            try simp only [Act.put, List.setIfInBounds_toArray, List.set_cons_zero, List.set_cons_succ, List.getElem_toArray, List.getElem_cons_succ, List.getElem_cons_zero]
                            refine wpAnyH_take (i := 7) (v := ?vb8) rfl (by kernel_rfl) (by kernel_rfl) (by kernel_rfl) (fun _ _ _ h => h) (Or.inl ⟨by rfl, ?hb8⟩) (by assumption) ?rb8
                            case hb8 => (intro wS hSw; (try dsimp only at hSw); go_simp; try with_reducible rfl)
                            case rb8 =>
                              try simp only [Act.put, List.setIfInBounds_toArray, List.set_cons_zero, List.set_cons_succ, List.getElem_toArray, List.getElem_cons_succ, List.getElem_cons_zero]
                              refine wpAnyH_take (i := 8) (v := ?vb9) rfl (by kernel_rfl) (by kernel_rfl) (by kernel_rfl) (fun _ _ _ h => h) (Or.inl ⟨by rfl, ?hb9⟩) (by assumption) ?rb9
                              case hb9 => (intro wS hSw; (try dsimp only at hSw); go_simp; try with_reducible rfl)
                              case rb9 =>
                                try simp only [Act.put, List.setIfInBounds_toArray, List.set_cons_zero, List.set_cons_succ, List.getElem_toArray, List.getElem_cons_succ, List.getElem_cons_zero]
                                refine wpAnyH_take (i := 9) (v := ?vb10) rfl (by kernel_rfl) (by kernel_rfl) (by kernel_rfl) (fun _ _ _ h => h) (Or.inl ⟨by rfl, ?hb10⟩) (by assumption) ?rb10
                                case hb10 => (intro wS hSw; (try dsimp only at hSw); go_simp; try with_reducible rfl)
                                case rb10 =>
                                  try simp only [Act.put, List.setIfInBounds_toArray, List.set_cons_zero, List.set_cons_succ, List.getElem_toArray, List.getElem_cons_succ, List.getElem_cons_zero]
                                  refine wpAnyH_take (i := 10) (v := ?vb11) rfl (by kernel_rfl) (by kernel_rfl) (by kernel_rfl) (fun _ _ _ h => h) (Or.inl ⟨by rfl, ?hb11⟩) (by assumption) ?rb11
                                  case hb11 => (intro wS hSw; (try dsimp only at hSw); go_simp; try with_reducible rfl)
                                  case rb11 =>
                                    try simp only [Act.put, List.setIfInBounds_toArray, List.set_cons_zero, List.set_cons_succ, List.getElem_toArray, List.getElem_cons_succ, List.getElem_cons_zero]
                                    refine wpAnyH_take (i := 11) (v := ?vb12) rfl (by kernel_rfl) (by kernel_rfl) (by kernel_rfl) (fun _ _ _ h => h) (Or.inl ⟨by rfl, ?hb12⟩) (by assumption) ?rb12
                                    case hb12 => (intro wS hSw; (try dsimp only at hSw); go_simp; try with_reducible rfl)
                                    case rb12 =>
                                      try simp only [Act.put, List.setIfInBounds_toArray, List.set_cons_zero, List.set_cons_succ, List.getElem_toArray, List.getElem_cons_succ, List.getElem_cons_zero]
                                      refine wpAnyH_take (i := 12) (v := ?vb13) rfl (by kernel_rfl) (by kernel_rfl) (by kernel_rfl) (fun _ _ _ h => h) (Or.inl ⟨by rfl, ?hb13⟩) (by assumption) ?rb13
                                      case hb13 => (intro wS hSw; (try dsimp only at hSw); go_simp; try with_reducible rfl)
                                      case rb13 =>
                                        try simp only [Act.put, List.setIfInBounds_toArray, List.set_cons_zero, List.set_cons_succ, List.getElem_toArray, List.getElem_cons_succ, List.getElem_cons_zero]
                                        refine wpAnyH_done (by kernel_rfl) ?_ _
                                        go_wp2_with fail
                                        go_meet
                                        exact ⟨rfl, rfl, hbQ⟩
              case rest =>
                obtain ⟨rfl, rfl, hwc⟩ := hcut
                have Hwc : Hid (Below W.heap.size W wc) := HWI.out.trans (hwc.mono HWI.out.size)
                clear hwc
                go_wp2_with fail
                go_ret
                exact ⟨false, rfl, (HW.out wc Hwc.out).2.2.2.2.2.2.2, HF.out⟩
            have Hnext : Hid (∀ j, j < k + 1 → placeOk p f (hs.getD j 0) (a.code.getD j default) (a.maps.getD j []) = true) := HYes.out (by rw [Hpl.out, hsame, decide_eq_true hml, Bool.and_true])
            have hgt : decide (0 < m.length) = false := by rw [hml]; rfl
            have hgt' : decide ((0 : Int) < (m.length : Int)) = false := by rw [hml]; rfl
            clear hbare hml HNo HYes
            go_upto_region 12 with fail
            rw [← HWI0.out]
            go_cut [51, 76] from 51 to 96 (fun ix q wc => ix = .int .i64 k ∧ q = .bool false ∧ Below WI.heap.size WI wc)
            case first =>
                have hb0 : Below WI.heap.size WI WI.drew := (Below.refl _ _).drew
                refine wp_region_held_drew (S := fun w' => w'.cell? ⟨wr.heap.size, 0, none⟩ = some (.slice X1 i.pre.length z1) ∧ w'.cell? ⟨wr.heap.size, 1, none⟩ = some (.int .i64 i.op) ∧ w'.cell? ⟨wr.heap.size, 2, none⟩ = some (.int .i64 i.to) ∧ w'.cell? ⟨wr.heap.size, 3, none⟩ = some (.slice X2 i.l.length z2) ∧ w'.cell? ⟨wr.heap.size, 4, none⟩ = some (.int .i64 i.t) ∧ w'.cell? ⟨w.heap.size + 1, 2, none⟩ = some (.slice (some ⟨bm, offm, none⟩) c.length dap) ∧ w'.cell? ⟨bm, offm + k, none⟩ = some (.slice M1 m.length y1) ∧ w'.cell? ⟨w.heap.size, 0, none⟩ = some (.slice (some ⟨bf, offf, none⟩) p.length cap) ∧ w'.cell? ⟨w.heap.size + 1, 0, none⟩ = some (.int .i64 (f : Int)) ∧ w'.cell? ⟨w1.heap.size, 1, none⟩ = some (.int .i64 L)) (by kernel_rfl) (HS.out _ hb0) (fun hHeld => ?_)
                refine wpAnyH_take (i := 0) (v := ?vc1) rfl (by kernel_rfl) (by kernel_rfl) (by kernel_rfl) (fun _ _ _ h => h) (Or.inl ⟨by rfl, ?hc1⟩) (by assumption) ?rc1
                case hc1 => (intro wS hSw; (try dsimp only at hSw); go_simp; try with_reducible rfl)
                case rc1 =>
                  try simp only [Act.put, List.setIfInBounds_toArray, List.set_cons_zero, List.set_cons_succ, List.getElem_toArray, List.getElem_cons_zero]
                  refine wpAnyH_ready (rs := [1]) (by kernel_rfl) (by simp) ?_
                  refine AllReadyH.cons rfl (fun K hK => ?_) AllReadyH.nil
                  go_simp
                  refine (implBare _).mono ?_
                  rintro e wP ⟨rfl, hbP0⟩
                  have hbP : Below WI.heap.size WI wP := hb0.trans hbP0
                  go_wp2_with fail
                  refine hK.out _ _ ?_ (fun hHeldc2 => ?_)
                  · exact HS.out wP hbP
                  clear hK K
                  try simp only [Act.put, List.setIfInBounds_toArray, List.set_cons_zero, List.set_cons_succ, List.getElem_toArray, List.getElem_cons_succ, List.getElem_cons_zero]
                  refine wpAnyH_ready (rs := [2]) (by kernel_rfl) (by simp) ?_
                  refine AllReadyH.cons rfl (fun K hK => ?_) AllReadyH.nil
                  go_simp
                  refine (HCS.out wP hbP).mono ?_
                  rintro e wQ ⟨rfl, hbQ0⟩
                  have hbQ : Below WI.heap.size WI wQ := hbP.trans (hbQ0.mono hbP.size)
                  rw [hsame]
                  go_wp2_with fail
                  refine hK.out _ _ ?_ (fun hHeldc3 => ?_)
                  · exact HS.out wQ hbQ
                  clear hK K
                  try simp only [Act.put, List.setIfInBounds_toArray, List.set_cons_zero, List.set_cons_succ, List.getElem_toArray, List.getElem_cons_succ, List.getElem_cons_zero]
                  refine wpAnyH_take (i := 3) (v := ?vc4) rfl (by kernel_rfl) (by kernel_rfl) (by kernel_rfl) (fun _ _ _ h => h) (Or.inl ⟨by rfl, ?hc4⟩) (by assumption) ?rc4
                  case hc4 => (intro wS hSw; (try dsimp only at hSw); go_simp; try with_reducible rfl)
                  case rc4 =>
                    try simp only [Act.put, List.setIfInBounds_toArray, List.set_cons_zero, List.set_cons_succ, List.getElem_toArray, List.getElem_cons_succ, List.getElem_cons_zero]
                    refine wpAnyH_take (i := 4) (v := ?vc5) rfl (by kernel_rfl) (by kernel_rfl) (by kernel_rfl) (fun _ _ _ h => h) (Or.inl ⟨by rfl, ?hc5⟩) (by assumption) ?rc5
                    case hc5 => (intro wS hSw; (try dsimp only at hSw); go_simp; try with_reducible rfl)
                    case rc5 =>
                      try simp only [Act.put, List.setIfInBounds_toArray, List.set_cons_zero, List.set_cons_succ, List.getElem_toArray, List.getElem_cons_succ, List.getElem_cons_zero]
                      refine wpAnyH_take (i := 5) (v := ?vc6) rfl (by kernel_rfl) (by kernel_rfl) (by kernel_rfl) (fun _ _ _ h => h) (Or.inl ⟨by rfl, ?hc6⟩) (by assumption) ?rc6
                      case hc6 => (intro wS hSw; (try dsimp only at hSw); go_simp; try with_reducible rfl)
                      case rc6 =>
                        try simp only [Act.put, List.setIfInBounds_toArray, List.set_cons_zero, List.set_cons_succ, List.getElem_toArray, List.getElem_cons_succ, List.getElem_cons_zero]
                        refine wpAnyH_take (i := 6) (v := ?vc7) rfl (by kernel_rfl) (by kernel_rfl) (by kernel_rfl) (fun _ _ _ h => h) (Or.inl ⟨by rfl, ?hc7⟩) (by assumption) ?rc7
                        case hc7 => (intro wS hSw; (try dsimp only at hSw); go_simp; try with_reducible rfl)
                        case rc7 =>
                          try simp only [Act.put, List.setIfInBounds_toArray, List.set_cons_zero, List.set_cons_succ, List.getElem_toArray, List.getElem_cons_succ, List.getElem_cons_zero]
                          refine wpAnyH_take (i := 7) (v := ?vc8) rfl (by kernel_rfl) (by kernel_rfl) (by kernel_rfl) (fun _ _ _ h => h) (Or.inl ⟨by rfl, ?hc8⟩) (by assumption) ?rc8
                          case hc8 => (intro wS hSw; (try dsimp only at hSw); go_simp; try with_reducible rfl)
                          case rc8 =>
                            try simp only [Act.put, List.setIfInBounds_toArray, List.set_cons_zero, List.set_cons_succ, List.getElem_toArray, List.getElem_cons_succ, List.getElem_cons_zero]
                            refine wpAnyH_take (i := 8) (v := ?vc9) rfl (by kernel_rfl) (by kernel_rfl) (by kernel_rfl) (fun _ _ _ h => h) (Or.inl ⟨by rfl, ?hc9⟩) (by assumption) ?rc9
                            case hc9 => (intro wS hSw; (try dsimp only at hSw); go_simp; try with_reducible rfl)
                            case rc9 =>
                              try simp only [Act.put, List.setIfInBounds_toArray, List.set_cons_zero, List.set_cons_succ, List.getElem_toArray, List.getElem_cons_succ, List.getElem_cons_zero]
                              refine wpAnyH_take (i := 9) (v := ?vc10) rfl (by kernel_rfl) (by kernel_rfl) (by kernel_rfl) (fun _ _ _ h => h) (Or.inl ⟨by rfl, ?hc10⟩) (by assumption) ?rc10
                              case hc10 => (intro wS hSw; (try dsimp only at hSw); go_simp; try with_reducible rfl)
                              case rc10 =>
                                try simp only [Act.put, List.setIfInBounds_toArray, List.set_cons_zero, List.set_cons_succ, List.getElem_toArray, List.getElem_cons_succ, List.getElem_cons_zero]
                                refine wpAnyH_take (i := 10) (v := ?vc11) rfl (by kernel_rfl) (by kernel_rfl) (by kernel_rfl) (fun _ _ _ h => h) (Or.inl ⟨by rfl, ?hc11⟩) (by assumption) ?rc11
                                case hc11 => (intro wS hSw; (try dsimp only at hSw); go_simp; try with_reducible rfl)
                                case rc11 =>
                                  try simp only [Act.put, List.setIfInBounds_toArray, List.set_cons_zero, List.set_cons_succ, List.getElem_toArray, List.getElem_cons_succ, List.getElem_cons_zero]
                                  refine wpAnyH_take (i := 11) (v := ?vc12) rfl (by kernel_rfl) (by kernel_rfl) (by kernel_rfl) (fun _ _ _ h => h) (Or.inl ⟨by rfl, ?hc12⟩) (by assumption) ?rc12
                                  case hc12 => (intro wS hSw; (try dsimp only at hSw); go_simp; try with_reducible rfl)
                                  case rc12 =>
                                    try simp only [Act.put, List.setIfInBounds_toArray, List.set_cons_zero, List.set_cons_succ, List.getElem_toArray, List.getElem_cons_succ, List.getElem_cons_zero]
                                    refine wpAnyH_take (i := 12) (v := ?vc13) rfl (by kernel_rfl) (by kernel_rfl) (by kernel_rfl) (fun _ _ _ h => h) (Or.inl ⟨by rfl, ?hc13⟩) (by assumption) ?rc13
                                    case hc13 => (intro wS hSw; (try dsimp only at hSw); go_simp; try with_reducible rfl)
                                    case rc13 =>
                                      try simp only [Act.put, List.setIfInBounds_toArray, List.set_cons_zero, List.set_cons_succ, List.getElem_toArray, List.getElem_cons_succ, List.getElem_cons_zero]
                                      refine wpAnyH_done (by kernel_rfl) ?_ _
                                      go_wp2_with fail
                                      go_meet
                                      exact ⟨rfl, rfl, hbQ⟩
            case rest =>
              obtain ⟨rfl, rfl, hwc⟩ := hcut
              have Hwc : Hid (Below W.heap.size W wc) := HWI.out.trans (hwc.mono HWI.out.size)
              clear hwc
              go_wp2_with fail
              go_roundg (gk - 1)
              case measure => omega
              case rel => exact ⟨k + 1, by omega, by go_num, by omega, Hwc.out, Hnext.out⟩
          | some h0 =>
            rw [hm] at hlook
            simp only [Option.getD_some, Option.isSome_some] at hlook
            have hh : hs.getD k 0 = h0 := by rw [Hh.out, hm]; rfl
            have hh0 := Hr08.out k (by omega)
            have h0r : 0 ≤ h0 ∧ h0 ≤ 8 := Hup.out k h0 hm
            have Hpl : Hid (placeOk p f (hs.getD k 0) i m = (aiOk p f i && mapOk m (L + h0))) := by show placeOk _ _ _ _ _ = _; unfold placeOk; rw [hh, if_neg (by omega), HL.out]
            have hadd : IntKind.i64.wrap (L + h0) = L + h0 := by have := HLr.out; exact wrap_small (by omega) (by omega)
            clear hm hh hh0 HCS
            by_cases hai : aiOk p f i = true
            case neg =>
              rw [Bool.not_eq_true] at hai
              have HF : Hid (SaysAsm p a false) := HNo.out (by rw [Hpl.out, hai, Bool.false_and])
              go_upto_region 14 with fail
              rw [← HWI0.out]
              go_cut [51, 95] from 51 to 96 (fun ix q wc => ix = .int .i64 k ∧ q = .bool true ∧ Below WI.heap.size WI wc)
              case first =>
                  have hb0 : Below WI.heap.size WI WI.drew := (Below.refl _ _).drew
                  refine wp_region_held_drew (S := fun w' => w'.cell? ⟨wr.heap.size, 0, none⟩ = some (.slice X1 i.pre.length z1) ∧ w'.cell? ⟨wr.heap.size, 1, none⟩ = some (.int .i64 i.op) ∧ w'.cell? ⟨wr.heap.size, 2, none⟩ = some (.int .i64 i.to) ∧ w'.cell? ⟨wr.heap.size, 3, none⟩ = some (.slice X2 i.l.length z2) ∧ w'.cell? ⟨wr.heap.size, 4, none⟩ = some (.int .i64 i.t) ∧ w'.cell? ⟨w.heap.size + 1, 2, none⟩ = some (.slice (some ⟨bm, offm, none⟩) c.length dap) ∧ w'.cell? ⟨bm, offm + k, none⟩ = some (.slice M1 m.length y1) ∧ w'.cell? ⟨w.heap.size, 0, none⟩ = some (.slice (some ⟨bf, offf, none⟩) p.length cap) ∧ w'.cell? ⟨w.heap.size + 1, 0, none⟩ = some (.int .i64 (f : Int)) ∧ w'.cell? ⟨w1.heap.size, 1, none⟩ = some (.int .i64 L)) (by kernel_rfl) (HS.out _ hb0) (fun hHeld => ?_)
                  refine wpAnyH_take (i := 0) (v := ?vd1) rfl (by kernel_rfl) (by kernel_rfl) (by kernel_rfl) (fun _ _ _ h => h) (Or.inl ⟨by rfl, ?hd1⟩) (by assumption) ?rd1
                  case hd1 => (intro wS hSw; (try dsimp only at hSw); go_simp; try with_reducible rfl)
                  case rd1 =>
                    try simp only [Act.put, List.setIfInBounds_toArray, List.set_cons_zero, List.set_cons_succ, List.getElem_toArray, List.getElem_cons_zero]
                    refine wpAnyH_take (i := 1) (v := ?vd2) rfl (by kernel_rfl) (by kernel_rfl) (by kernel_rfl) (fun _ _ _ h => h) (Or.inl ⟨by rfl, ?hd2⟩) (by assumption) ?rd2
                    case hd2 => (intro wS hSw; (try dsimp only at hSw); go_simp; try with_reducible rfl)
                    case rd2 =>
                      try simp only [Act.put, List.setIfInBounds_toArray, List.set_cons_zero, List.set_cons_succ, List.getElem_toArray, List.getElem_cons_succ, List.getElem_cons_zero]
                      refine wpAnyH_take (i := 2) (v := ?vd3) rfl (by kernel_rfl) (by kernel_rfl) (by kernel_rfl) (fun _ _ _ h => h) (Or.inl ⟨by rfl, ?hd3⟩) (by assumption) ?rd3
                      case hd3 => (intro wS hSw; (try dsimp only at hSw); go_simp; try with_reducible rfl)
                      case rd3 =>
                        try simp only [Act.put, List.setIfInBounds_toArray, List.set_cons_zero, List.set_cons_succ, List.getElem_toArray, List.getElem_cons_succ, List.getElem_cons_zero]
                        refine wpAnyH_take (i := 3) (v := ?vd4) rfl (by kernel_rfl) (by kernel_rfl) (by kernel_rfl) (fun _ _ _ h => h) (Or.inl ⟨by rfl, ?hd4⟩) (by assumption) ?rd4
                        case hd4 => (intro wS hSw; (try dsimp only at hSw); go_simp; try with_reducible rfl)
                        case rd4 =>
                          try simp only [Act.put, List.setIfInBounds_toArray, List.set_cons_zero, List.set_cons_succ, List.getElem_toArray, List.getElem_cons_succ, List.getElem_cons_zero]
                          refine wpAnyH_ready (rs := [4]) (by kernel_rfl) (by simp) ?_
                          refine AllReadyH.cons rfl (fun K hK => ?_) AllReadyH.nil
                          go_simp
                          refine (HCI.out _ hb0).mono ?_
                          rintro e wP ⟨rfl, hbP0⟩
                          have hbP : Below WI.heap.size WI wP := hb0.trans hbP0
                          rw [hai]
                          go_wp2_with fail
                          refine hK.out _ _ ?_ (fun hHeldd5 => ?_)
                          · exact HS.out wP hbP
                          clear hK K
                          try simp only [Act.put, List.setIfInBounds_toArray, List.set_cons_zero, List.set_cons_succ, List.getElem_toArray, List.getElem_cons_succ, List.getElem_cons_zero]
                          refine wpAnyH_take (i := 5) (v := ?vd6) rfl (by kernel_rfl) (by kernel_rfl) (by kernel_rfl) (fun _ _ _ h => h) (Or.inl ⟨by rfl, ?hd6⟩) (by assumption) ?rd6
                          case hd6 => (intro wS hSw; (try dsimp only at hSw); go_simp; try with_reducible rfl)
                          case rd6 =>
                            try simp only [Act.put, List.setIfInBounds_toArray, List.set_cons_zero, List.set_cons_succ, List.getElem_toArray, List.getElem_cons_succ, List.getElem_cons_zero]
                            refine wpAnyH_take (i := 6) (v := ?vd7) rfl (by kernel_rfl) (by kernel_rfl) (by kernel_rfl) (fun _ _ _ h => h) (Or.inl ⟨by rfl, ?hd7⟩) (by assumption) ?rd7
                            case hd7 => (intro wS hSw; (try dsimp only at hSw); go_simp; try with_reducible rfl)
                            case rd7 =>
                              try simp only [Act.put, List.setIfInBounds_toArray, List.set_cons_zero, List.set_cons_succ, List.getElem_toArray, List.getElem_cons_succ, List.getElem_cons_zero]
                              refine wpAnyH_take (i := 7) (v := undef) rfl (by kernel_rfl) (by kernel_rfl) (by kernel_rfl) (fun _ _ _ h => h) (Or.inr ⟨by rfl, rfl⟩) (by assumption) ?rd8
                              case rd8 =>
                                try simp only [Act.put, List.setIfInBounds_toArray, List.set_cons_zero, List.set_cons_succ, List.getElem_toArray, List.getElem_cons_succ, List.getElem_cons_zero]
                                refine wpAnyH_take (i := 8) (v := undef) rfl (by kernel_rfl) (by kernel_rfl) (by kernel_rfl) (fun _ _ _ h => h) (Or.inr ⟨by rfl, rfl⟩) (by assumption) ?rd9
                                case rd9 =>
                                  try simp only [Act.put, List.setIfInBounds_toArray, List.set_cons_zero, List.set_cons_succ, List.getElem_toArray, List.getElem_cons_succ, List.getElem_cons_zero]
                                  refine wpAnyH_take (i := 9) (v := undef) rfl (by kernel_rfl) (by kernel_rfl) (by kernel_rfl) (fun _ _ _ h => h) (Or.inr ⟨by rfl, rfl⟩) (by assumption) ?rd10
                                  case rd10 =>
                                    try simp only [Act.put, List.setIfInBounds_toArray, List.set_cons_zero, List.set_cons_succ, List.getElem_toArray, List.getElem_cons_succ, List.getElem_cons_zero]
                                    refine wpAnyH_take (i := 10) (v := undef) rfl (by kernel_rfl) (by kernel_rfl) (by kernel_rfl) (fun _ _ _ h => h) (Or.inr ⟨by rfl, rfl⟩) (by assumption) ?rd11
                                    case rd11 =>
                                      try simp only [Act.put, List.setIfInBounds_toArray, List.set_cons_zero, List.set_cons_succ, List.getElem_toArray, List.getElem_cons_succ, List.getElem_cons_zero]
                                      refine wpAnyH_take (i := 11) (v := undef) rfl (by kernel_rfl) (by kernel_rfl) (by kernel_rfl) (fun _ _ _ h => h) (Or.inr ⟨by rfl, rfl⟩) (by assumption) ?rd12
                                      case rd12 =>
                                        try simp only [Act.put, List.setIfInBounds_toArray, List.set_cons_zero, List.set_cons_succ, List.getElem_toArray, List.getElem_cons_succ, List.getElem_cons_zero]
                                        refine wpAnyH_take (i := 12) (v := undef) rfl (by kernel_rfl) (by kernel_rfl) (by kernel_rfl) (fun _ _ _ h => h) (Or.inr ⟨by rfl, rfl⟩) (by assumption) ?rd13
                                        case rd13 =>
                                          try simp only [Act.put, List.setIfInBounds_toArray, List.set_cons_zero, List.set_cons_succ, List.getElem_toArray, List.getElem_cons_succ, List.getElem_cons_zero]
                                          refine wpAnyH_take (i := 13) (v := undef) rfl (by kernel_rfl) (by kernel_rfl) (by kernel_rfl) (fun _ _ _ h => h) (Or.inr ⟨by rfl, rfl⟩) (by assumption) ?rd14
                                          case rd14 =>
                                            try simp only [Act.put, List.setIfInBounds_toArray, List.set_cons_zero, List.set_cons_succ, List.getElem_toArray, List.getElem_cons_succ, List.getElem_cons_zero]
                                            refine wpAnyH_take (i := 14) (v := undef) rfl (by kernel_rfl) (by kernel_rfl) (by kernel_rfl) (fun _ _ _ h => h) (Or.inr ⟨by rfl, rfl⟩) (by assumption) ?rd15
                                            case rd15 =>
                                              try simp only [Act.put, List.setIfInBounds_toArray, List.set_cons_zero, List.set_cons_succ, List.getElem_toArray, List.getElem_cons_succ, List.getElem_cons_zero]
                                              refine wpAnyH_take (i := 15) (v := undef) rfl (by kernel_rfl) (by kernel_rfl) (by kernel_rfl) (fun _ _ _ h => h) (Or.inr ⟨by rfl, rfl⟩) (by assumption) ?rd16
                                              case rd16 =>
                                                try simp only [Act.put, List.setIfInBounds_toArray, List.set_cons_zero, List.set_cons_succ, List.getElem_toArray, List.getElem_cons_succ, List.getElem_cons_zero]
                                                refine wpAnyH_take (i := 16) (v := undef) rfl (by kernel_rfl) (by kernel_rfl) (by kernel_rfl) (fun _ _ _ h => h) (Or.inr ⟨by rfl, rfl⟩) (by assumption) ?rd17
                                                case rd17 =>
                                                  try simp only [Act.put, List.setIfInBounds_toArray, List.set_cons_zero, List.set_cons_succ, List.getElem_toArray, List.getElem_cons_succ, List.getElem_cons_zero]
                                                  refine wpAnyH_take (i := 17) (v := undef) rfl (by kernel_rfl) (by kernel_rfl) (by kernel_rfl) (fun _ _ _ h => h) (Or.inr ⟨by rfl, rfl⟩) (by assumption) ?rd18
                                                  case rd18 =>
                                                    try simp only [Act.put, List.setIfInBounds_toArray, List.set_cons_zero, List.set_cons_succ, List.getElem_toArray, List.getElem_cons_succ, List.getElem_cons_zero]
                                                    refine wpAnyH_take (i := 18) (v := ?vd19) rfl (by kernel_rfl) (by kernel_rfl) (by kernel_rfl) (fun _ _ _ h => h) (Or.inl ⟨by rfl, ?hd19⟩) (by assumption) ?rd19
                                                    case hd19 => (intro wS hSw; (try dsimp only at hSw); go_simp; try with_reducible rfl)
                                                    case rd19 =>
                                                      try simp only [Act.put, List.setIfInBounds_toArray, List.set_cons_zero, List.set_cons_succ, List.getElem_toArray, List.getElem_cons_succ, List.getElem_cons_zero]
                                                      refine wpAnyH_done (by kernel_rfl) ?_ _
                                                      go_wp2_with fail
                                                      go_meet
                                                      exact ⟨rfl, rfl, hbP⟩
              case rest =>
                obtain ⟨rfl, rfl, hwc⟩ := hcut
                have Hwc : Hid (Below W.heap.size W wc) := HWI.out.trans (hwc.mono HWI.out.size)
                clear hwc
                go_wp2_with fail
                go_ret
                exact ⟨false, rfl, (HW.out wc Hwc.out).2.2.2.2.2.2.2, HF.out⟩
            by_cases hmo : mapOk m (L + h0) = true
            case neg =>
              rw [Bool.not_eq_true] at hmo
              have HF : Hid (SaysAsm p a false) := HNo.out (by rw [Hpl.out, hai, hmo, Bool.and_false])
              go_upto_region 14 with fail
              rw [← HWI0.out]
              go_cut [51, 95] from 51 to 96 (fun ix q wc => ix = .int .i64 k ∧ q = .bool true ∧ Below WI.heap.size WI wc)
              case first =>
                  have hb0 : Below WI.heap.size WI WI.drew := (Below.refl _ _).drew
                  refine wp_region_held_drew (S := fun w' => w'.cell? ⟨wr.heap.size, 0, none⟩ = some (.slice X1 i.pre.length z1) ∧ w'.cell? ⟨wr.heap.size, 1, none⟩ = some (.int .i64 i.op) ∧ w'.cell? ⟨wr.heap.size, 2, none⟩ = some (.int .i64 i.to) ∧ w'.cell? ⟨wr.heap.size, 3, none⟩ = some (.slice X2 i.l.length z2) ∧ w'.cell? ⟨wr.heap.size, 4, none⟩ = some (.int .i64 i.t) ∧ w'.cell? ⟨w.heap.size + 1, 2, none⟩ = some (.slice (some ⟨bm, offm, none⟩) c.length dap) ∧ w'.cell? ⟨bm, offm + k, none⟩ = some (.slice M1 m.length y1) ∧ w'.cell? ⟨w.heap.size, 0, none⟩ = some (.slice (some ⟨bf, offf, none⟩) p.length cap) ∧ w'.cell? ⟨w.heap.size + 1, 0, none⟩ = some (.int .i64 (f : Int)) ∧ w'.cell? ⟨w1.heap.size, 1, none⟩ = some (.int .i64 L)) (by kernel_rfl) (HS.out _ hb0) (fun hHeld => ?_)
                  refine wpAnyH_take (i := 0) (v := ?ve1) rfl (by kernel_rfl) (by kernel_rfl) (by kernel_rfl) (fun _ _ _ h => h) (Or.inl ⟨by rfl, ?he1⟩) (by assumption) ?re1
                  case he1 => (intro wS hSw; (try dsimp only at hSw); go_simp; try with_reducible rfl)
                  case re1 =>
                    try simp only [Act.put, List.setIfInBounds_toArray, List.set_cons_zero, List.set_cons_succ, List.getElem_toArray, List.getElem_cons_zero]
                    refine wpAnyH_take (i := 1) (v := ?ve2) rfl (by kernel_rfl) (by kernel_rfl) (by kernel_rfl) (fun _ _ _ h => h) (Or.inl ⟨by rfl, ?he2⟩) (by assumption) ?re2
                    case he2 => (intro wS hSw; (try dsimp only at hSw); go_simp; try with_reducible rfl)
                    case re2 =>
                      try simp only [Act.put, List.setIfInBounds_toArray, List.set_cons_zero, List.set_cons_succ, List.getElem_toArray, List.getElem_cons_succ, List.getElem_cons_zero]
                      refine wpAnyH_take (i := 2) (v := ?ve3) rfl (by kernel_rfl) (by kernel_rfl) (by kernel_rfl) (fun _ _ _ h => h) (Or.inl ⟨by rfl, ?he3⟩) (by assumption) ?re3
                      case he3 => (intro wS hSw; (try dsimp only at hSw); go_simp; try with_reducible rfl)
                      case re3 =>
                        try simp only [Act.put, List.setIfInBounds_toArray, List.set_cons_zero, List.set_cons_succ, List.getElem_toArray, List.getElem_cons_succ, List.getElem_cons_zero]
                        refine wpAnyH_take (i := 3) (v := ?ve4) rfl (by kernel_rfl) (by kernel_rfl) (by kernel_rfl) (fun _ _ _ h => h) (Or.inl ⟨by rfl, ?he4⟩) (by assumption) ?re4
                        case he4 => (intro wS hSw; (try dsimp only at hSw); go_simp; try with_reducible rfl)
                        case re4 =>
                          try simp only [Act.put, List.setIfInBounds_toArray, List.set_cons_zero, List.set_cons_succ, List.getElem_toArray, List.getElem_cons_succ, List.getElem_cons_zero]
                          refine wpAnyH_ready (rs := [4]) (by kernel_rfl) (by simp) ?_
                          refine AllReadyH.cons rfl (fun K hK => ?_) AllReadyH.nil
                          go_simp
                          refine (HCI.out _ hb0).mono ?_
                          rintro e wP ⟨rfl, hbP0⟩
                          have hbP : Below WI.heap.size WI wP := hb0.trans hbP0
                          rw [hai]
                          go_wp2_with fail
                          refine hK.out _ _ ?_ (fun hHelde5 => ?_)
                          · exact HS.out wP hbP
                          clear hK K
                          try simp only [Act.put, List.setIfInBounds_toArray, List.set_cons_zero, List.set_cons_succ, List.getElem_toArray, List.getElem_cons_succ, List.getElem_cons_zero]
                          refine wpAnyH_take (i := 5) (v := ?ve6) rfl (by kernel_rfl) (by kernel_rfl) (by kernel_rfl) (fun _ _ _ h => h) (Or.inl ⟨by rfl, ?he6⟩) (by assumption) ?re6
                          case he6 => (intro wS hSw; (try dsimp only at hSw); go_simp; try with_reducible rfl)
                          case re6 =>
                            try simp only [Act.put, List.setIfInBounds_toArray, List.set_cons_zero, List.set_cons_succ, List.getElem_toArray, List.getElem_cons_succ, List.getElem_cons_zero]
                            refine wpAnyH_take (i := 6) (v := ?ve7) rfl (by kernel_rfl) (by kernel_rfl) (by kernel_rfl) (fun _ _ _ h => h) (Or.inl ⟨by rfl, ?he7⟩) (by assumption) ?re7
                            case he7 => (intro wS hSw; (try dsimp only at hSw); go_simp; try with_reducible rfl)
                            case re7 =>
                              try simp only [Act.put, List.setIfInBounds_toArray, List.set_cons_zero, List.set_cons_succ, List.getElem_toArray, List.getElem_cons_succ, List.getElem_cons_zero]
                              refine wpAnyH_take (i := 7) (v := ?ve8) rfl (by kernel_rfl) (by kernel_rfl) (by kernel_rfl) (fun _ _ _ h => h) (Or.inl ⟨by rfl, ?he8⟩) (by assumption) ?re8
                              case he8 => (intro wS hSw; (try dsimp only at hSw); go_simp; try with_reducible rfl)
                              case re8 =>
                                try simp only [Act.put, List.setIfInBounds_toArray, List.set_cons_zero, List.set_cons_succ, List.getElem_toArray, List.getElem_cons_succ, List.getElem_cons_zero]
                                refine wpAnyH_take (i := 8) (v := ?ve9) rfl (by kernel_rfl) (by kernel_rfl) (by kernel_rfl) (fun _ _ _ h => h) (Or.inl ⟨by rfl, ?he9⟩) (by assumption) ?re9
                                case he9 => (intro wS hSw; (try dsimp only at hSw); go_simp; try with_reducible rfl)
                                case re9 =>
                                  try simp only [Act.put, List.setIfInBounds_toArray, List.set_cons_zero, List.set_cons_succ, List.getElem_toArray, List.getElem_cons_succ, List.getElem_cons_zero]
                                  refine wpAnyH_take (i := 9) (v := ?ve10) rfl (by kernel_rfl) (by kernel_rfl) (by kernel_rfl) (fun _ _ _ h => h) (Or.inl ⟨by rfl, ?he10⟩) (by assumption) ?re10
                                  case he10 => (intro wS hSw; (try dsimp only at hSw); go_simp; try with_reducible rfl)
                                  case re10 =>
                                    try simp only [Act.put, List.setIfInBounds_toArray, List.set_cons_zero, List.set_cons_succ, List.getElem_toArray, List.getElem_cons_succ, List.getElem_cons_zero]
                                    refine wpAnyH_take (i := 10) (v := ?ve11) rfl (by kernel_rfl) (by kernel_rfl) (by kernel_rfl) (fun _ _ _ h => h) (Or.inl ⟨by rfl, ?he11⟩) (by assumption) ?re11
                                    case he11 => (intro wS hSw; (try dsimp only at hSw); go_simp; try with_reducible rfl)
                                    case re11 =>
                                      try simp only [Act.put, List.setIfInBounds_toArray, List.set_cons_zero, List.set_cons_succ, List.getElem_toArray, List.getElem_cons_succ, List.getElem_cons_zero]
                                      refine wpAnyH_take (i := 11) (v := ?ve12) rfl (by kernel_rfl) (by kernel_rfl) (by kernel_rfl) (fun _ _ _ h => h) (Or.inl ⟨by rfl, ?he12⟩) (by assumption) ?re12
                                      case he12 => (intro wS hSw; (try dsimp only at hSw); go_simp; try with_reducible rfl)
                                      case re12 =>
                                        try simp only [Act.put, List.setIfInBounds_toArray, List.set_cons_zero, List.set_cons_succ, List.getElem_toArray, List.getElem_cons_succ, List.getElem_cons_zero]
                                        refine wpAnyH_take (i := 12) (v := ?ve13) rfl (by kernel_rfl) (by kernel_rfl) (by kernel_rfl) (fun _ _ _ h => h) (Or.inl ⟨by rfl, ?he13⟩) (by assumption) ?re13
                                        case he13 => (intro wS hSw; (try dsimp only at hSw); go_simp; try with_reducible rfl)
                                        case re13 =>
                                          try simp only [Act.put, List.setIfInBounds_toArray, List.set_cons_zero, List.set_cons_succ, List.getElem_toArray, List.getElem_cons_succ, List.getElem_cons_zero]
                                          refine wpAnyH_take (i := 13) (v := ?ve14) rfl (by kernel_rfl) (by kernel_rfl) (by kernel_rfl) (fun _ _ _ h => h) (Or.inl ⟨by rfl, ?he14⟩) (by assumption) ?re14
                                          case he14 => (intro wS hSw; (try dsimp only at hSw); go_simp; try with_reducible rfl)
                                          case re14 =>
                                            try simp only [Act.put, List.setIfInBounds_toArray, List.set_cons_zero, List.set_cons_succ, List.getElem_toArray, List.getElem_cons_succ, List.getElem_cons_zero]
                                            refine wpAnyH_take (i := 14) (v := ?ve15) rfl (by kernel_rfl) (by kernel_rfl) (by kernel_rfl) (fun _ _ _ h => h) (Or.inl ⟨by rfl, ?he15⟩) (by assumption) ?re15
                                            case he15 => (intro wS hSw; (try dsimp only at hSw); go_simp; try with_reducible rfl)
                                            case re15 =>
                                              try simp only [Act.put, List.setIfInBounds_toArray, List.set_cons_zero, List.set_cons_succ, List.getElem_toArray, List.getElem_cons_succ, List.getElem_cons_zero]
                                              refine wpAnyH_take (i := 15) (v := ?ve16) rfl (by kernel_rfl) (by kernel_rfl) (by kernel_rfl) (fun _ _ _ h => h) (Or.inl ⟨by rfl, ?he16⟩) (by assumption) ?re16
                                              case he16 => (intro wS hSw; (try dsimp only at hSw); go_simp; try with_reducible rfl)
                                              case re16 =>
                                                try simp only [Act.put, List.setIfInBounds_toArray, List.set_cons_zero, List.set_cons_succ, List.getElem_toArray, List.getElem_cons_succ, List.getElem_cons_zero]
                                                refine wpAnyH_ready (rs := [16]) (by kernel_rfl) (by simp) ?_
                                                refine AllReadyH.cons rfl (fun K hK => ?_) AllReadyH.nil
                                                go_simp
                                                refine (HCM.out (L + h0) wP hbP).mono ?_
                                                rintro e wQ ⟨rfl, hbQ0⟩
                                                have hbQ : Below WI.heap.size WI wQ := hbP.trans (hbQ0.mono hbP.size)
                                                rw [hmo]
                                                go_wp2_with fail
                                                refine hK.out _ _ ?_ (fun hHelde17 => ?_)
                                                · exact HS.out wQ hbQ
                                                clear hK K
                                                try simp only [Act.put, List.setIfInBounds_toArray, List.set_cons_zero, List.set_cons_succ, List.getElem_toArray, List.getElem_cons_succ, List.getElem_cons_zero]
                                                refine wpAnyH_take (i := 17) (v := ?ve18) rfl (by kernel_rfl) (by kernel_rfl) (by kernel_rfl) (fun _ _ _ h => h) (Or.inl ⟨by rfl, ?he18⟩) (by assumption) ?re18
                                                case he18 => (intro wS hSw; (try dsimp only at hSw); go_simp; try with_reducible rfl)
                                                case re18 =>
                                                  try simp only [Act.put, List.setIfInBounds_toArray, List.set_cons_zero, List.set_cons_succ, List.getElem_toArray, List.getElem_cons_succ, List.getElem_cons_zero]
                                                  refine wpAnyH_take (i := 18) (v := ?ve19) rfl (by kernel_rfl) (by kernel_rfl) (by kernel_rfl) (fun _ _ _ h => h) (Or.inl ⟨by rfl, ?he19⟩) (by assumption) ?re19
                                                  case he19 => (intro wS hSw; (try dsimp only at hSw); go_simp; try with_reducible rfl)
                                                  case re19 =>
                                                    try simp only [Act.put, List.setIfInBounds_toArray, List.set_cons_zero, List.set_cons_succ, List.getElem_toArray, List.getElem_cons_succ, List.getElem_cons_zero]
                                                    refine wpAnyH_done (by kernel_rfl) ?_ _
                                                    go_wp2_with fail
                                                    go_meet
                                                    exact ⟨rfl, rfl, hbQ⟩
              case rest =>
                obtain ⟨rfl, rfl, hwc⟩ := hcut
                have Hwc : Hid (Below W.heap.size W wc) := HWI.out.trans (hwc.mono HWI.out.size)
                clear hwc
                go_wp2_with fail
                go_ret
                exact ⟨false, rfl, (HW.out wc Hwc.out).2.2.2.2.2.2.2, HF.out⟩
            have Hnext : Hid (∀ j, j < k + 1 → placeOk p f (hs.getD j 0) (a.code.getD j default) (a.maps.getD j []) = true) := HYes.out (by rw [Hpl.out, hai, hmo, Bool.and_true])
            clear HNo HYes
            go_upto_region 14 with fail
            rw [← HWI0.out]
            go_cut [51, 95] from 51 to 96 (fun ix q wc => ix = .int .i64 k ∧ q = .bool false ∧ Below WI.heap.size WI wc)
            case first =>
                have hb0 : Below WI.heap.size WI WI.drew := (Below.refl _ _).drew
                refine wp_region_held_drew (S := fun w' => w'.cell? ⟨wr.heap.size, 0, none⟩ = some (.slice X1 i.pre.length z1) ∧ w'.cell? ⟨wr.heap.size, 1, none⟩ = some (.int .i64 i.op) ∧ w'.cell? ⟨wr.heap.size, 2, none⟩ = some (.int .i64 i.to) ∧ w'.cell? ⟨wr.heap.size, 3, none⟩ = some (.slice X2 i.l.length z2) ∧ w'.cell? ⟨wr.heap.size, 4, none⟩ = some (.int .i64 i.t) ∧ w'.cell? ⟨w.heap.size + 1, 2, none⟩ = some (.slice (some ⟨bm, offm, none⟩) c.length dap) ∧ w'.cell? ⟨bm, offm + k, none⟩ = some (.slice M1 m.length y1) ∧ w'.cell? ⟨w.heap.size, 0, none⟩ = some (.slice (some ⟨bf, offf, none⟩) p.length cap) ∧ w'.cell? ⟨w.heap.size + 1, 0, none⟩ = some (.int .i64 (f : Int)) ∧ w'.cell? ⟨w1.heap.size, 1, none⟩ = some (.int .i64 L)) (by kernel_rfl) (HS.out _ hb0) (fun hHeld => ?_)
                refine wpAnyH_take (i := 0) (v := ?vg1) rfl (by kernel_rfl) (by kernel_rfl) (by kernel_rfl) (fun _ _ _ h => h) (Or.inl ⟨by rfl, ?hg1⟩) (by assumption) ?rg1
                case hg1 => (intro wS hSw; (try dsimp only at hSw); go_simp; try with_reducible rfl)
                case rg1 =>
                  try simp only [Act.put, List.setIfInBounds_toArray, List.set_cons_zero, List.set_cons_succ, List.getElem_toArray, List.getElem_cons_zero]
                  refine wpAnyH_take (i := 1) (v := ?vg2) rfl (by kernel_rfl) (by kernel_rfl) (by kernel_rfl) (fun _ _ _ h => h) (Or.inl ⟨by rfl, ?hg2⟩) (by assumption) ?rg2
                  case hg2 => (intro wS hSw; (try dsimp only at hSw); go_simp; try with_reducible rfl)
                  case rg2 =>
                    try simp only [Act.put, List.setIfInBounds_toArray, List.set_cons_zero, List.set_cons_succ, List.getElem_toArray, List.getElem_cons_succ, List.getElem_cons_zero]
                    refine wpAnyH_take (i := 2) (v := ?vg3) rfl (by kernel_rfl) (by kernel_rfl) (by kernel_rfl) (fun _ _ _ h => h) (Or.inl ⟨by rfl, ?hg3⟩) (by assumption) ?rg3
                    case hg3 => (intro wS hSw; (try dsimp only at hSw); go_simp; try with_reducible rfl)
                    case rg3 =>
                      try simp only [Act.put, List.setIfInBounds_toArray, List.set_cons_zero, List.set_cons_succ, List.getElem_toArray, List.getElem_cons_succ, List.getElem_cons_zero]
                      refine wpAnyH_take (i := 3) (v := ?vg4) rfl (by kernel_rfl) (by kernel_rfl) (by kernel_rfl) (fun _ _ _ h => h) (Or.inl ⟨by rfl, ?hg4⟩) (by assumption) ?rg4
                      case hg4 => (intro wS hSw; (try dsimp only at hSw); go_simp; try with_reducible rfl)
                      case rg4 =>
                        try simp only [Act.put, List.setIfInBounds_toArray, List.set_cons_zero, List.set_cons_succ, List.getElem_toArray, List.getElem_cons_succ, List.getElem_cons_zero]
                        refine wpAnyH_ready (rs := [4]) (by kernel_rfl) (by simp) ?_
                        refine AllReadyH.cons rfl (fun K hK => ?_) AllReadyH.nil
                        go_simp
                        refine (HCI.out _ hb0).mono ?_
                        rintro e wP ⟨rfl, hbP0⟩
                        have hbP : Below WI.heap.size WI wP := hb0.trans hbP0
                        rw [hai]
                        go_wp2_with fail
                        refine hK.out _ _ ?_ (fun hHeldg5 => ?_)
                        · exact HS.out wP hbP
                        clear hK K
                        try simp only [Act.put, List.setIfInBounds_toArray, List.set_cons_zero, List.set_cons_succ, List.getElem_toArray, List.getElem_cons_succ, List.getElem_cons_zero]
                        refine wpAnyH_take (i := 5) (v := ?vg6) rfl (by kernel_rfl) (by kernel_rfl) (by kernel_rfl) (fun _ _ _ h => h) (Or.inl ⟨by rfl, ?hg6⟩) (by assumption) ?rg6
                        case hg6 => (intro wS hSw; (try dsimp only at hSw); go_simp; try with_reducible rfl)
                        case rg6 =>
                          try simp only [Act.put, List.setIfInBounds_toArray, List.set_cons_zero, List.set_cons_succ, List.getElem_toArray, List.getElem_cons_succ, List.getElem_cons_zero]
                          refine wpAnyH_take (i := 6) (v := ?vg7) rfl (by kernel_rfl) (by kernel_rfl) (by kernel_rfl) (fun _ _ _ h => h) (Or.inl ⟨by rfl, ?hg7⟩) (by assumption) ?rg7
                          case hg7 => (intro wS hSw; (try dsimp only at hSw); go_simp; try with_reducible rfl)
                          case rg7 =>
                            try simp only [Act.put, List.setIfInBounds_toArray, List.set_cons_zero, List.set_cons_succ, List.getElem_toArray, List.getElem_cons_succ, List.getElem_cons_zero]
                            refine wpAnyH_take (i := 7) (v := ?vg8) rfl (by kernel_rfl) (by kernel_rfl) (by kernel_rfl) (fun _ _ _ h => h) (Or.inl ⟨by rfl, ?hg8⟩) (by assumption) ?rg8
                            case hg8 => (intro wS hSw; (try dsimp only at hSw); go_simp; try with_reducible rfl)
                            case rg8 =>
                              try simp only [Act.put, List.setIfInBounds_toArray, List.set_cons_zero, List.set_cons_succ, List.getElem_toArray, List.getElem_cons_succ, List.getElem_cons_zero]
                              refine wpAnyH_take (i := 8) (v := ?vg9) rfl (by kernel_rfl) (by kernel_rfl) (by kernel_rfl) (fun _ _ _ h => h) (Or.inl ⟨by rfl, ?hg9⟩) (by assumption) ?rg9
                              case hg9 => (intro wS hSw; (try dsimp only at hSw); go_simp; try with_reducible rfl)
                              case rg9 =>
                                try simp only [Act.put, List.setIfInBounds_toArray, List.set_cons_zero, List.set_cons_succ, List.getElem_toArray, List.getElem_cons_succ, List.getElem_cons_zero]
                                refine wpAnyH_take (i := 9) (v := ?vg10) rfl (by kernel_rfl) (by kernel_rfl) (by kernel_rfl) (fun _ _ _ h => h) (Or.inl ⟨by rfl, ?hg10⟩) (by assumption) ?rg10
                                case hg10 => (intro wS hSw; (try dsimp only at hSw); go_simp; try with_reducible rfl)
                                case rg10 =>
                                  try simp only [Act.put, List.setIfInBounds_toArray, List.set_cons_zero, List.set_cons_succ, List.getElem_toArray, List.getElem_cons_succ, List.getElem_cons_zero]
                                  refine wpAnyH_take (i := 10) (v := ?vg11) rfl (by kernel_rfl) (by kernel_rfl) (by kernel_rfl) (fun _ _ _ h => h) (Or.inl ⟨by rfl, ?hg11⟩) (by assumption) ?rg11
                                  case hg11 => (intro wS hSw; (try dsimp only at hSw); go_simp; try with_reducible rfl)
                                  case rg11 =>
                                    try simp only [Act.put, List.setIfInBounds_toArray, List.set_cons_zero, List.set_cons_succ, List.getElem_toArray, List.getElem_cons_succ, List.getElem_cons_zero]
                                    refine wpAnyH_take (i := 11) (v := ?vg12) rfl (by kernel_rfl) (by kernel_rfl) (by kernel_rfl) (fun _ _ _ h => h) (Or.inl ⟨by rfl, ?hg12⟩) (by assumption) ?rg12
                                    case hg12 => (intro wS hSw; (try dsimp only at hSw); go_simp; try with_reducible rfl)
                                    case rg12 =>
                                      try simp only [Act.put, List.setIfInBounds_toArray, List.set_cons_zero, List.set_cons_succ, List.getElem_toArray, List.getElem_cons_succ, List.getElem_cons_zero]
                                      refine wpAnyH_take (i := 12) (v := ?vg13) rfl (by kernel_rfl) (by kernel_rfl) (by kernel_rfl) (fun _ _ _ h => h) (Or.inl ⟨by rfl, ?hg13⟩) (by assumption) ?rg13
                                      case hg13 => (intro wS hSw; (try dsimp only at hSw); go_simp; try with_reducible rfl)
                                      case rg13 =>
                                        try simp only [Act.put, List.setIfInBounds_toArray, List.set_cons_zero, List.set_cons_succ, List.getElem_toArray, List.getElem_cons_succ, List.getElem_cons_zero]
                                        refine wpAnyH_take (i := 13) (v := ?vg14) rfl (by kernel_rfl) (by kernel_rfl) (by kernel_rfl) (fun _ _ _ h => h) (Or.inl ⟨by rfl, ?hg14⟩) (by assumption) ?rg14
                                        case hg14 => (intro wS hSw; (try dsimp only at hSw); go_simp; try with_reducible rfl)
                                        case rg14 =>
                                          try simp only [Act.put, List.setIfInBounds_toArray, List.set_cons_zero, List.set_cons_succ, List.getElem_toArray, List.getElem_cons_succ, List.getElem_cons_zero]
                                          refine wpAnyH_take (i := 14) (v := ?vg15) rfl (by kernel_rfl) (by kernel_rfl) (by kernel_rfl) (fun _ _ _ h => h) (Or.inl ⟨by rfl, ?hg15⟩) (by assumption) ?rg15
                                          case hg15 => (intro wS hSw; (try dsimp only at hSw); go_simp; try with_reducible rfl)
                                          case rg15 =>
                                            try simp only [Act.put, List.setIfInBounds_toArray, List.set_cons_zero, List.set_cons_succ, List.getElem_toArray, List.getElem_cons_succ, List.getElem_cons_zero]
                                            refine wpAnyH_take (i := 15) (v := ?vg16) rfl (by kernel_rfl) (by kernel_rfl) (by kernel_rfl) (fun _ _ _ h => h) (Or.inl ⟨by rfl, ?hg16⟩) (by assumption) ?rg16
                                            case hg16 => (intro wS hSw; (try dsimp only at hSw); go_simp; try with_reducible rfl)
                                            case rg16 =>
                                              try simp only [Act.put, List.setIfInBounds_toArray, List.set_cons_zero, List.set_cons_succ, List.getElem_toArray, List.getElem_cons_succ, List.getElem_cons_zero]
                                              refine wpAnyH_ready (rs := [16]) (by kernel_rfl) (by simp) ?_
                                              refine AllReadyH.cons rfl (fun K hK => ?_) AllReadyH.nil
                                              go_simp
                                              refine (HCM.out (L + h0) wP hbP).mono ?_
                                              rintro e wQ ⟨rfl, hbQ0⟩
                                              have hbQ : Below WI.heap.size WI wQ := hbP.trans (hbQ0.mono hbP.size)
                                              rw [hmo]
                                              go_wp2_with fail
                                              refine hK.out _ _ ?_ (fun hHeldg17 => ?_)
                                              · exact HS.out wQ hbQ
                                              clear hK K
                                              try simp only [Act.put, List.setIfInBounds_toArray, List.set_cons_zero, List.set_cons_succ, List.getElem_toArray, List.getElem_cons_succ, List.getElem_cons_zero]
                                              refine wpAnyH_take (i := 17) (v := ?vg18) rfl (by kernel_rfl) (by kernel_rfl) (by kernel_rfl) (fun _ _ _ h => h) (Or.inl ⟨by rfl, ?hg18⟩) (by assumption) ?rg18
                                              case hg18 => (intro wS hSw; (try dsimp only at hSw); go_simp; try with_reducible rfl)
                                              case rg18 =>
                                                try simp only [Act.put, List.setIfInBounds_toArray, List.set_cons_zero, List.set_cons_succ, List.getElem_toArray, List.getElem_cons_succ, List.getElem_cons_zero]
                                                refine wpAnyH_take (i := 18) (v := ?vg19) rfl (by kernel_rfl) (by kernel_rfl) (by kernel_rfl) (fun _ _ _ h => h) (Or.inl ⟨by rfl, ?hg19⟩) (by assumption) ?rg19
                                                case hg19 => (intro wS hSw; (try dsimp only at hSw); go_simp; try with_reducible rfl)
                                                case rg19 =>
                                                  try simp only [Act.put, List.setIfInBounds_toArray, List.set_cons_zero, List.set_cons_succ, List.getElem_toArray, List.getElem_cons_succ, List.getElem_cons_zero]
                                                  refine wpAnyH_done (by kernel_rfl) ?_ _
                                                  go_wp2_with fail
                                                  go_meet
                                                  exact ⟨rfl, rfl, hbQ⟩
            case rest =>
              obtain ⟨rfl, rfl, hwc⟩ := hcut
              have Hwc : Hid (Below W.heap.size W wc) := HWI.out.trans (hwc.mono HWI.out.size)
              clear hwc
              go_wp2_with fail
              go_roundg (gk - 1)
              case measure => omega
              case rel => exact ⟨k + 1, by omega, by go_num, by omega, Hwc.out, Hnext.out⟩
        · have HT : Hid (SaysAsm p a true) := HAll.out (fun j hj => Hok.out j (by omega))
          go_wp2_with fail
          go_ret
          exact ⟨true, rfl, (HW.out wr Hb.out).2.2.2.2.2.2.2, HT.out⟩
    · have := (hru HR.out.1).unique Hrun.out
      cases this
end Go.Proofs.YtijgonjnmibifaaGreatDoor
