/- impl.Heights. -/
import Derived.Test.YtljhoplcfoiiiaaDoorVerI
import Derived.Laws.OwnMore
namespace Go.Proofs.YtljhoplcfoiiiaaDoor
open Go.RowKit

/-- the heights that are told of function f -/
def AnsIs (p : List FnM) (f : Int) (hs : List Int) : Prop :=
  (RightP p ∧ inL f p.length = true ∧ HRun p (fnAt p f).code (startH (fnAt p f).code.length) (.inl hs)) ∨ (¬ (RightP p ∧ inL f p.length = true) ∧ hs = [])

theorem AnsIs.unique {p : List FnM} {f : Int} {hs hs' : List Int} (h : AnsIs p f hs) (k : AnsIs p f hs') : hs = hs' := by
  rcases h with ⟨a, b, c⟩ | ⟨a, b⟩
  · rcases k with ⟨_, _, c'⟩ | ⟨a', _⟩
    · have := c.unique c'
      simpa using this
    · exact absurd ⟨a, b⟩ a'
  · rcases k with ⟨a', b', _⟩ | ⟨_, b'⟩
    · exact absurd ⟨a', b'⟩ a
    · rw [b, b']

/-- a slice of numbers in memory of the call's own -/
def OwnV (B : Nat) (w : World) (v : Value) (zs : List Int) : Prop := ∃ A cap, v = .slice A zs.length cap ∧ zs.length ≤ 1048576 ∧ (zs = [] ∨ ∃ b, A = some ⟨b, 0, none⟩ ∧ B ≤ b ∧ VRow w b (ints zs))

theorem OwnV.nil (B : Nat) (w : World) (A : Option Addr) (cap : Nat) : OwnV B w (.slice A 0 cap) [] := ⟨A, cap, rfl, by simp, .inl rfl⟩
theorem OwnV.below {B : Nat} {w w' : World} {v : Value} {zs : List Int} (h : OwnV B w v zs) (hb : Below w.heap.size w w') : OwnV B w' v zs := by
  obtain ⟨A, cap, h1, h2, h3⟩ := h
  refine ⟨A, cap, h1, h2, h3.imp id ?_⟩
  rintro ⟨b, e1, e2, e3⟩
  exact ⟨b, e1, e2, e3.below hb⟩
theorem OwnV.lower {B B' : Nat} {w : World} {v : Value} {zs : List Int} (h : OwnV B w v zs) (hB : B' ≤ B) : OwnV B' w v zs := by
  obtain ⟨A, cap, h1, h2, h3⟩ := h
  refine ⟨A, cap, h1, h2, h3.imp id ?_⟩
  rintro ⟨b, e1, e2, e3⟩
  exact ⟨b, e1, Nat.le_trans hB e2, e3⟩
theorem OwnV.form {B : Nat} {w : World} {v : Value} {zs : List Int} (h : OwnV B w v zs) : ∃ A cap, v = .slice A zs.length cap := let ⟨A, cap, h, _⟩ := h; ⟨A, cap, h⟩

/-- .. and how -/
def HeiTold (p : List FnM) (f : Int) (w w' : World) (e : Ending) : Prop := ∃ u hs, e = .returned u ∧ OwnV w.heap.size w' u hs ∧ AnsIs p f hs ∧ Below w.heap.size w w'

theorem hsOf_get {n : Nat} {s : IS} (hl : s.m.length = n) (k : Nat) (hk : k < n) : (hsOf n s).h.getD k 0 = (s.m.getD k none).getD (-1) := hsOf_getD hl k hk

theorem all_same {zs hs : List Int} (hl : zs.length = hs.length) (h : ∀ j, j < zs.length → zs.getD j 0 = hs.getD j 0) : zs = hs := by
  apply List.ext_getElem hl
  intro j h1 h2
  have := h j h1
  simpa [List.getD, h1, h2] using this

set_option maxRecDepth 100000 in
set_option maxHeartbeats 3200000 in
theorem implHeights (v : Value) (p : List FnM) (f : Int) (w : World) (ht : Tab w) (hr : FnRow 0 w v p) :
    Calls Tryd.prog 32 #[.agg #[v], .int .i64 f] w fun e w' => HeiTold p f w w' e := by
  have Hr : Hid (FnRow 0 w v p) := hr
  have Ht : Hid (Tab w) := ht
  have hlen := hr.len
  obtain ⟨A, cap, rfl⟩ := hr.form
  clear hr ht
  have X0 : Hid (Box _ w.heap.size #[.slice A p.length cap]) := box_new w #[.slice A p.length cap] 25
  have X2 : Hid (Below w.heap.size w (w.alloc (.cells #[.slice A p.length cap] 25))) := (Below.refl _ _).alloc (Nat.le_refl _) _
  go_enter Tryd.func32, Tryd.ntmps32
  go_wp2_with fail
  refine (implIn _ p f _ (Ht.out.below X2.out) (Hr.out.below X2.out)).mono ?_
  rintro e w1 ⟨b, rfl, hb1, hiff⟩
  have Hb1 : Hid (Below w.heap.size w w1) := X2.out.trans (hb1.mono X2.out.size)
  have HB : Hid (Box w1 w.heap.size #[.slice A p.length cap]) := X0.out.below hb1
  have c0 := HB.out.at0
  have cz := HB.out.1
  clear hb1 X0 X2
  cases b with
  | false =>
    have HA : Hid (AnsIs p f []) := .inr ⟨fun h => by simpa using hiff.2 h, rfl⟩
    clear hiff
    go_wp2_with fail
    go_ret
    exact ⟨_, [], rfl, OwnV.nil _ _ _ _, HA.out, Hb1.out⟩
  | true =>
    obtain ⟨hright, hin⟩ := hiff.1 rfl
    have hin' : 0 ≤ f ∧ f < p.length := by simpa [inL] using hin
    obtain ⟨k, rfl⟩ := Int.eq_ofNat_of_zero_le hin'.1
    have hk : k < p.length := by omega
    obtain ⟨hs, hrun, hl1, hl2, _, _, _⟩ := hright.heights k hk
    have hfn := fnAt_nat p k hk
    obtain ⟨hfo, hall, _⟩ := ((hright.all).2.2 k hk).well rfl
    have hform : 1 ≤ (fnAt p k).code.length ∧ (fnAt p k).code.length ≤ 60 := by simp [formOk] at hfo; omega
    have hargs : ArgsUp p := fun g hg => by have := hright.args g hg; omega
    obtain ⟨c, hc⟩ : ∃ c, c = p[k].code := ⟨_, rfl⟩
    have hcf : (fnAt p k).code = c := by rw [hfn, hc]
    rw [hcf] at hrun hl1 hall hform
    have HR : Hid (RightP p ∧ inL (k : Int) p.length = true) := ⟨hright, hin⟩
    have Hcf : Hid ((fnAt p k).code = c) := hcf
    have Hrun : Hid (HRun p c (startH c.length) (.inl hs)) := hrun
    have hfi := implFind (.slice A p.length cap) p k w1 (Ht.out.below Hb1.out) (Hr.out.below Hb1.out) hk (by rw [← hc]; exact hform.1) (by rw [← hc]; exact hform.2) (by rw [← hc]; exact goesTo_range (p := p) (f := k) hcf.symm hall)
    rw [← hc] at hfi
    have Hfi : Hid (Calls Tryd.prog 46 #[.agg #[.slice A p.length cap], .int .i64 k] w1 fun e w' => FoundIs p c w1 w' e) := hfi
    have Hargs : Hid (ArgsUp p) := hargs
    have Hcp : Hid (c = p[k].code) := hc
    clear hiff hright hin hin' hfn hfo hall hcf hrun hfi hargs hc
    go_wp2_with fail
    refine Calls.mono (R := fun e w' => FoundIs p c w1 w' e) Hfi.out ?_
    rintro e w2 ⟨Bm, at', code, rfl, hb2, hcase⟩
    have Hb2 : Hid (Below w.heap.size w w2) := Hb1.out.trans (hb2.mono Hb1.out.size)
    have HB2 : Hid (Box w2 w.heap.size #[.slice A p.length cap]) := HB.out.below hb2
    rcases hcase with ⟨rfl, s, hok, hM, hru⟩ | ⟨_, a, _, hru⟩
    · have hes : (hsOf c.length s).h = hs := by
        have := ((hru Hargs.out).1).unique Hrun.out
        simpa using this
      have Hes : Hid ((hsOf c.length s).h = hs) := hes
      have Hok : Hid (IOk c.length s) := hok
      have HM : Hid (MapH w2 Bm s.m) := hM
      have hml := hok.len
      have hMlt := hM.lt
      obtain ⟨bf, offf, x, rfl, hltf, _, _, ef, hx⟩ := (Hr.out.below Hb2.out).at k hk
      obtain ⟨Ac, capc, rfl⟩ := hx.form
      rw [← Hcp.out] at ef
      obtain ⟨i0, hi, hz0, hz1, hz2⟩ := info_parts Tryd.info64
      have hmk := fun (W : World) => run_makeSlice (P := Tryd.prog) W 28 2 i0 _ Tryd.underlying28 hi hz0 .i64 .i64 c.length c.length (by omega) (by omega) (by rw [hz1]; simp; omega) (by rw [hz2]; omega) (by omega)
      simp only [hz1, Int.toNat_natCast, Nat.mul_one] at hmk
      clear c0 cz
      have c0 := HB2.out.at0
      have cz := HB2.out.1
      clear hes hok hM hru hb2 hx Hfi
      go_wp2_with fail
      clear hmk c0 cz ef
      go_loopg [33] (c.length) (fun g i wr => ∃ q : Nat, q ≤ c.length ∧ i = .int .i64 q ∧ c.length ≤ q + g ∧ MapH wr Bm s.m ∧ Below w.heap.size w wr ∧ ∃ zs : List Int, zs.length = c.length ∧ VRow wr w2.heap.size (ints zs) ∧ ∀ j, j < q → zs.getD j 0 = hs.getD j 0)
      case atStart =>
        have hal : Below w2.heap.size w2 (w2.alloc (.cells (madeCells #[Value.int .i64 0] c.length) 2)) := (Below.refl _ _).alloc (Nat.le_refl _) _
        refine ⟨0, Nat.zero_le _, rfl, by omega, HM.out.below hal, Hb2.out.trans (hal.mono Hb2.out.size), List.replicate c.length 0, by simp, ?_, fun j h => by omega⟩
        have y := vrow_new w2 (madeCells #[Value.int .i64 0] c.length) 2
        rw [toList_madeCells_one] at y
        rw [show ints (List.replicate c.length 0) = List.replicate c.length (.int .i64 0) by simp [ints]]
        exact y
      case round =>
        obtain ⟨q, hq, rfl, hqg, hM, hb, zs, hzl, hZ, hsame⟩ := hrel
        have HM3 : Hid (MapH wr Bm s.m) := hM
        have Hb3 : Hid (Below w.heap.size w wr) := hb
        have HZ : Hid (VRow wr w2.heap.size (ints zs)) := hZ
        have Hsame : Hid (∀ j, j < q → zs.getD j 0 = hs.getD j 0) := hsame
        clear hM hb hZ hsame
        by_cases hql : q < c.length
        · obtain ⟨hlook, _⟩ := HM3.out.look (by omega) q (by omega)
          have hg := hsOf_get hml q hql
          rw [Hes.out] at hg
          have Hg : Hid (hs.getD q 0 = (s.m.getD q none).getD (-1)) := hg
          clear hg
          obtain ⟨z0, f0⟩ := HZ.out.int q (by omega)
          have zl := HZ.out.1
          have HN : Hid (∀ y : Int, hs.getD q 0 = y → MapH (wr.setCell ⟨w2.heap.size, q, none⟩ (.int .i64 y)) Bm s.m ∧ Below w.heap.size w (wr.setCell ⟨w2.heap.size, q, none⟩ (.int .i64 y)) ∧ VRow (wr.setCell ⟨w2.heap.size, q, none⟩ (.int .i64 y)) w2.heap.size (ints (zs.set q y)) ∧ ∀ j, j < q + 1 → (zs.set q y).getD j 0 = hs.getD j 0) := fun y hy => by
            refine ⟨HM3.out.setFar _ _ (by show Bm ≠ w2.heap.size; omega), Hb3.out.setCell (by exact Hb2.out.size) _, ?_, fun j hj => ?_⟩
            · have := HZ.out.set_at q (.int .i64 y) (by rw [ints_length]; omega)
              rwa [ints_set] at this
            · rw [getD_set _ _ _ _ _ (by omega)]
              split
              · rename_i e; subst e; exact hy.symm
              · exact Hsame.out j (by omega)
          cases hm : s.m.getD q none with
          | some y =>
            rw [hm] at hlook
            simp only [Option.getD_some, Option.isSome_some] at hlook
            have hy : hs.getD q 0 = y := by rw [Hg.out, hm]; rfl
            obtain ⟨n1, n2, n3, n4⟩ := HN.out y hy
            have Hn : Hid (MapH _ Bm s.m ∧ Below w.heap.size w _ ∧ VRow _ w2.heap.size (ints (zs.set q y)) ∧ ∀ j, j < q + 1 → (zs.set q y).getD j 0 = hs.getD j 0) := ⟨n1, n2, n3, n4⟩
            clear hm hy n1 n2 n3 n4 HN
            go_wp2_with fail
            go_roundg (gk - 1)
            case measure => omega
            case rel => exact ⟨q + 1, by omega, by go_num, by omega, Hn.out.1, Hn.out.2.1, zs.set q y, by simpa using hzl, Hn.out.2.2.1, Hn.out.2.2.2⟩
          | none =>
            rw [hm] at hlook
            simp only [Option.getD_none, Option.isSome_none] at hlook
            have hy : hs.getD q 0 = -1 := by rw [Hg.out, hm]; rfl
            obtain ⟨n1, n2, n3, n4⟩ := HN.out (-1) hy
            have Hn : Hid (MapH _ Bm s.m ∧ Below w.heap.size w _ ∧ VRow _ w2.heap.size (ints (zs.set q (-1))) ∧ ∀ j, j < q + 1 → (zs.set q (-1)).getD j 0 = hs.getD j 0) := ⟨n1, n2, n3, n4⟩
            clear hm hy n1 n2 n3 n4 HN
            go_wp2_with fail
            go_roundg (gk - 1)
            case measure => omega
            case rel => exact ⟨q + 1, by omega, by go_num, by omega, Hn.out.1, Hn.out.2.1, zs.set q (-1), by simpa using hzl, Hn.out.2.2.1, Hn.out.2.2.2⟩
        · have hzs : zs = hs := all_same (by omega) (fun j hj => Hsame.out j (by omega))
          subst hzs
          go_wp2_with fail
          go_ret
          refine ⟨_, zs, rfl, ⟨_, c.length, by rw [hzl]; rfl, by omega, .inr ⟨_, rfl, Hb2.out.size, HZ.out⟩⟩, .inl ⟨HR.out.1, HR.out.2, ?_⟩, Hb3.out⟩
          rw [Hcf.out]
          exact Hrun.out
    · have := (hru Hargs.out).unique Hrun.out
      cases this
end Go.Proofs.YtljhoplcfoiiiaaDoor
